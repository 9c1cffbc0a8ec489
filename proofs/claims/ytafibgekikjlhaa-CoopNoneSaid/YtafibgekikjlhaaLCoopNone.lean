/- The walk of headgatelaw35.CoopNone. -/
import Derived.Test.YtafibgekikjlhaaCoLaw
namespace Go.Proofs.Ytafibgekikjlhaa
open Go.RowKit Vm As
set_option linter.unusedVariables false
set_option linter.unusedSimpArgs false

set_option maxRecDepth 100000 in
theorem cgen_nil (w : World) : Calls Try.prog 27 #[.pointer none] w fun e w' => e = .returned (.int .i64 0) ∧ w' = w := by
  go_enter Try.func27, Try.ntmps27
  go_wp2_with fail
  go_ret
  exact ⟨rfl, rfl⟩
theorem chave_nil (w : World) : Calls Try.prog 29 #[.pointer none] w fun e w' => e = .returned (.slice none 0 0) ∧ w' = w := by
  go_enter Try.func29, Try.ntmps29
  go_wp2_with fail
  go_ret
  exact ⟨rfl, rfl⟩
theorem cwant_nil (w : World) : Calls Try.prog 30 #[.pointer none] w fun e w' => e = .returned (.slice none 0 0) ∧ w' = w := by
  go_enter Try.func30, Try.ntmps30
  go_wp2_with fail
  go_ret
  exact ⟨rfl, rfl⟩
theorem cmembers_nil (w : World) : Calls Try.prog 28 #[.pointer none] w fun e w' => e = .returned (.slice none 0 0) ∧ w' = w := by
  go_enter Try.func28, Try.ntmps28
  go_wp2_with fail
  go_ret
  exact ⟨rfl, rfl⟩
set_option maxRecDepth 100000 in
theorem crests_nil (w : World) : Calls Try.prog 31 #[.pointer none] w fun e w' => e = .returned (.bool false) ∧ Below w.heap.size w w' := by
  have HB := Lib.hid (fun n => below_drewN w.heap.size w n)
  go_enter Try.func31, Try.ntmps31
  go_wp2_with fail
  go_quiet (fail)
  go_wp2_with fail
  go_ret
  exact ⟨by first | rfl | trivial, HB.out _⟩
theorem crevoke_nil (m : Int) (w : World) : Calls Try.prog 23 #[.pointer none, .int .i64 m] w fun e w' => e = .returned (.tuple #[.slice none 0 0, .int .i64 11]) ∧ w' = w := by
  have KI := Lib.hid (is_nil m w)
  go_enter Try.func23, Try.ntmps23
  go_wp2_with fail
  refine KI.out.mono ?_
  rintro e w1 ⟨rfl, hw⟩
  subst hw
  go_wp2_with fail
  go_ret2
  exact ⟨rfl, rfl⟩
theorem cdone_nil (m p : Int) (w : World) : Calls Try.prog 25 #[.pointer none, .int .i64 m, .int .i64 p] w fun e w' => e = .returned (.int .i64 11) ∧ w' = w := by
  have KI := Lib.hid (is_nil m w)
  go_enter Try.func25, Try.ntmps25
  go_wp2_with fail
  refine KI.out.mono ?_
  rintro e w1 ⟨rfl, hw⟩
  subst hw
  go_wp2_with fail
  go_ret
  exact ⟨rfl, rfl⟩
set_option maxRecDepth 100000 in
set_option maxHeartbeats 4000000 in
theorem coopNone_law (m p : Int) (w : World) (hm : (Lit.int .i64 m).wf = true) (hp : (Lit.int .i64 p).wf = true) :
    Calls Try.prog 8 #[.int .i64 m, .int .i64 p] w fun e w' => e = .returned (.bool true) ∧ Below w.heap.size w w' := by
  have R := Lib.hid (fun w => crevoke_nil m w)
  have J := Lib.hid (fun a c w => cjoin_nil 1 a c w)
  have L := Lib.hid (fun w => cleave_nil m w)
  have D := Lib.hid (fun w => cdone_nil m p w)
  have T := Lib.hid (fun w => crests_nil w)
  have G := Lib.hid (fun w => cgen_nil w)
  have H := Lib.hid (fun w => chave_nil w)
  have W := Lib.hid (fun w => cwant_nil w)
  have M := Lib.hid (fun w => cmembers_nil w)
  have A := Lib.hid (fun w => awake35_walk w)
  clear hm hp
  go_enter Try.func8, Try.ntmps8
  go_wp2_with fail
  refine (R.out _).mono ?_
  rintro e w1 ⟨rfl, hw⟩
  subst hw
  have hal := balloc w1 (.cells #[.int .i64 m] 3)
  go_wp2_with fail
  refine (J.out _ _ _).mono ?_
  rintro e w2 ⟨rfl, hw⟩
  rw [← hw] at hal
  clear hw
  go_wp2_with fail
  refine (L.out _).mono ?_
  rintro e w3 ⟨rfl, b3⟩
  have c3 := gtrans hal b3
  clear hal b3
  go_wp2_with fail
  refine (D.out _).mono ?_
  rintro e w4 ⟨rfl, hw⟩
  subst hw
  go_wp2_with fail
  refine (T.out _).mono ?_
  rintro e w5 ⟨rfl, b5⟩
  have c5 := gtrans c3 b5
  clear c3 b5
  go_wp2_with fail
  refine (G.out _).mono ?_
  rintro e w6 ⟨rfl, hw⟩
  subst hw
  go_wp2_with fail
  refine (H.out _).mono ?_
  rintro e w7 ⟨rfl, hw⟩
  subst hw
  go_wp2_with fail
  refine (W.out _).mono ?_
  rintro e w8 ⟨rfl, hw⟩
  subst hw
  go_wp2_with fail
  refine (M.out _).mono ?_
  rintro e w9 ⟨rfl, hw⟩
  subst hw
  go_wp2_with fail
  refine (A.out _).mono ?_
  rintro e w10 ⟨rfl, b10⟩
  have c10 := gtrans c5 b10
  go_wp2_with fail
  go_ret
  exact ⟨rfl, c10⟩
end Go.Proofs.Ytafibgekikjlhaa
