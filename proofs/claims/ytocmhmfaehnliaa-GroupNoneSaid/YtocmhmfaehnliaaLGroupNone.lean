/- The walk of GroupNone. -/
import Derived.Test.YtocmhmfaehnliaaGrLaw
namespace Go.Proofs.Ytocmhmfaehnliaa
open Go.RowKit Vm As
set_option linter.unusedVariables false
set_option linter.unusedSimpArgs false

theorem gen_nil (w : World) : Calls Try.prog 22 #[.pointer none] w fun e w' => e = .returned (.int .i64 0) ∧ Below w.heap.size w w' := by
  go_enter Try.func22, Try.ntmps22
  go_wp2_with fail
  go_ret
  exact ⟨rfl, Below.refl _ _⟩
theorem next_nil (w : World) : Calls Try.prog 23 #[.pointer none] w fun e w' => e = .returned (.int .i64 0) ∧ Below w.heap.size w w' := by
  go_enter Try.func23, Try.ntmps23
  go_wp2_with fail
  go_ret
  exact ⟨rfl, Below.refl _ _⟩
theorem members_nil (w : World) : Calls Try.prog 17 #[.pointer none] w fun e w' => e = .returned (.slice none 0 0) ∧ Below w.heap.size w w' := by
  go_enter Try.func17, Try.ntmps17
  go_wp2_with fail
  go_ret
  exact ⟨rfl, Below.refl _ _⟩
theorem owners_nil (w : World) : Calls Try.prog 18 #[.pointer none] w fun e w' => e = .returned (.slice none 0 0) ∧ Below w.heap.size w w' := by
  go_enter Try.func18, Try.ntmps18
  go_wp2_with fail
  go_ret
  exact ⟨rfl, Below.refl _ _⟩
set_option maxRecDepth 100000 in
set_option maxHeartbeats 4000000 in
theorem groupNone_law (a b c : Int) (w : World) (ha : (Lit.int .i64 a).wf = true) (hb : (Lit.int .i64 b).wf = true) (hc : (Lit.int .i64 c).wf = true) :
    Calls Try.prog 8 #[.int .i64 a, .int .i64 b, .int .i64 c] w fun e w' => e = .returned (.bool true) ∧ Below w.heap.size w w' := by
  have K1 := Lib.hid (fun w => gjoin_nil a w)
  have K2 := Lib.hid (fun w => gsync_nil a w)
  have K3 := Lib.hid (fun w => gbeat_nil a b w)
  have K4 := Lib.hid (fun w => gleave_nil a w)
  have K5 := Lib.hid (fun w => gtick_nil w)
  have K6 := Lib.hid (fun w => gmay_nil a b c w)
  have K7 := Lib.hid (fun w => gen_nil w)
  have K8 := Lib.hid (fun w => next_nil w)
  have K9 := Lib.hid (fun w => members_nil w)
  have K10 := Lib.hid (fun w => owners_nil w)
  have K11 := Lib.hid (fun w => awake10_walk w)
  clear ha hb hc
  go_enter Try.func8, Try.ntmps8
  go_wp2_with fail
  refine (K1.out _).mono ?_
  rintro e w1 ⟨rfl, g1⟩
  go_wp2_with fail
  refine (K2.out _).mono ?_
  rintro e w2 ⟨rfl, g2⟩
  have g2 := gtrans g1 g2
  go_wp2_with fail
  refine (K3.out _).mono ?_
  rintro e w3 ⟨rfl, g3⟩
  have g3 := gtrans g2 g3
  go_wp2_with fail
  refine (K4.out _).mono ?_
  rintro e w4 ⟨rfl, g4⟩
  have g4 := gtrans g3 g4
  go_wp2_with fail
  refine (K5.out _).mono ?_
  rintro e w5 ⟨rfl, g5⟩
  have g5 := gtrans g4 g5
  go_wp2_with fail
  refine (K6.out _).mono ?_
  rintro e w6 ⟨rfl, g6⟩
  have g6 := gtrans g5 g6
  go_wp2_with fail
  refine (K7.out _).mono ?_
  rintro e w7 ⟨rfl, g7⟩
  have g7 := gtrans g6 g7
  go_wp2_with fail
  refine (K8.out _).mono ?_
  rintro e w8 ⟨rfl, g8⟩
  have g8 := gtrans g7 g8
  go_wp2_with fail
  refine (K9.out _).mono ?_
  rintro e w9 ⟨rfl, g9⟩
  have g9 := gtrans g8 g9
  go_wp2_with fail
  refine (K10.out _).mono ?_
  rintro e w10 ⟨rfl, g10⟩
  have g10 := gtrans g9 g10
  go_wp2_with fail
  refine (K11.out _).mono ?_
  rintro e w11 ⟨rfl, g11⟩
  have g11 := gtrans g10 g11
  go_wp2_with fail
  go_ret
  exact ⟨rfl, g11⟩
end Go.Proofs.Ytocmhmfaehnliaa
