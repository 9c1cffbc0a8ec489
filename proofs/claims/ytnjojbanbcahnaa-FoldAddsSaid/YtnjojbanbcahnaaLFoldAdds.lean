/- The walk of the statement FoldAdds of layer 15. -/
import Derived.Test.YtnjojbanbcahnaaLFoldRows
import Derived.Test.YtnjojbanbcahnaaAggOpen
namespace Go.Proofs.Ytnjojbanbcahnaa
open Go.RowKit Vm Fo
set_option linter.unusedVariables false

set_option maxRecDepth 100000 in
set_option maxHeartbeats 4000000 in
theorem foldAdds_law (a : Ag) (v : Int) (w : World) (ha : AgWf a) (hv0 : (Lit.int .i64 v).wf = true) :
    Calls Try.prog 9 #[av a, .int .i64 v] w fun e w' => e = .returned (.bool true) ∧ Below w.heap.size w w' := by
  have hv := wf_i64 hv0
  have K1 := Lib.hid (fun w' => add_walk a v w' ha hv)
  have K2 := Lib.hid (fun w' => ref_add_walk a v w' ha hv)
  have K3 : Hid (∀ w' : World, Calls Try.prog 34 #[.int .i64 v] w' fun e w'' => e = .returned (.int .i64 (srt v : Int)) ∧ Below w'.heap.size w' w'') :=
    Lib.hid (fun w' => (sort_walk v w').mono (by rintro e w2 ⟨rfl, rfl⟩; exact ⟨rfl, Below.refl _ _⟩))
  have K4 : Hid (∀ w' : World, Calls Try.prog 35 #[.int .i64 v] w' fun e w'' => e = .returned (.int .i64 (srt v : Int)) ∧ Below w'.heap.size w' w'') :=
    Lib.hid (fun w' => (ref_sort_walk v w').mono (by rintro e w2 ⟨rfl, rfl⟩; exact ⟨rfl, Below.refl _ _⟩))
  obtain ⟨b, hb⟩ : ∃ b, b = addA a v := ⟨_, rfl⟩
  rw [← hb] at K1 K2
  clear hb ha hv0
  have hq : ∀ w, (binOp .eql 53 (.agg #[.int .i64 b.count, .int .i64 b.sum, .int .i64 b.min, .int .i64 b.max, .int .i64 b.h0, .int .i64 b.h1, .int .i64 b.h2, .int .i64 b.h3, .int .i64 b.re, .int .i64 b.im]) (.agg #[.int .i64 b.count, .int .i64 b.sum, .int .i64 b.min, .int .i64 b.max, .int .i64 b.h0, .int .i64 b.h1, .int .i64 b.h2, .int .i64 b.h3, .int .i64 b.re, .int .i64 b.im])).run Try.prog w = .ok (.bool true) w := fun w => agg_eq b w
  have hal := (Below.refl w.heap.size w).alloc (Nat.le_refl _) (.cells (avc a) 53)
  have HAL := Lib.hid hal
  obtain ⟨c0, c1, c2, c3, c4, c5, c6, c7, c8, c9, f0, f1, f2, f3, f4, f5, f6, f7, f8, f9⟩ := (Whole.new w 53 (avc a)).ten
  go_enter Try.func9, Try.ntmps9
  go_wp2_with fail
  have hwz : w.heap.size < (w.alloc (.cells (avc a) 53)).heap.size := by simp
  obtain ⟨W, hWd⟩ : ∃ W, W = w.alloc (.cells (avc a) 53) := ⟨_, rfl⟩
  have hWd2 : w.alloc (.cells #[.int .i64 a.count, .int .i64 a.sum, .int .i64 a.min, .int .i64 a.max, .int .i64 a.h0, .int .i64 a.h1, .int .i64 a.h2, .int .i64 a.h3, .int .i64 a.re, .int .i64 a.im] 53) = W := hWd.symm
  rw [hWd2]
  rw [← hWd] at c0 c1 c2 c3 c4 c5 c6 c7 c8 c9 HAL hwz
  have hself : Below W.heap.size W W.drew := (Below.refl _ _).drew
  clear hWd hWd2 f0 f1 f2 f3 f4 f5 f6 f7 f8 f9 hal
  go_region_held3 (fun w' => w'.cell? ⟨w.heap.size, 0, none⟩ = some (.int .i64 a.count) ∧ w'.cell? ⟨w.heap.size, 1, none⟩ = some (.int .i64 a.sum) ∧ w'.cell? ⟨w.heap.size, 2, none⟩ = some (.int .i64 a.min) ∧ w'.cell? ⟨w.heap.size, 3, none⟩ = some (.int .i64 a.max) ∧ w'.cell? ⟨w.heap.size, 4, none⟩ = some (.int .i64 a.h0) ∧ w'.cell? ⟨w.heap.size, 5, none⟩ = some (.int .i64 a.h1) ∧ w'.cell? ⟨w.heap.size, 6, none⟩ = some (.int .i64 a.h2) ∧ w'.cell? ⟨w.heap.size, 7, none⟩ = some (.int .i64 a.h3) ∧ w'.cell? ⟨w.heap.size, 8, none⟩ = some (.int .i64 a.re) ∧ w'.cell? ⟨w.heap.size, 9, none⟩ = some (.int .i64 a.im) ∧ w.heap.size < w'.heap.size ∧ Below W.heap.size W w')
    (first | assumption | exact ⟨c0, c1, c2, c3, c4, c5, c6, c7, c8, c9, hwz, hself⟩)
    (first
      | (go_at_call 32; refine (K1.out _).mono ?_; rintro e w3 ⟨rfl, h3⟩; have y := ten_held (by assumption) h3)
      | (go_at_call 33; refine (K2.out _).mono ?_; rintro e w3 ⟨rfl, h3⟩; have y := ten_held (by assumption) h3)
      | (go_at_call 34; refine (K3.out _).mono ?_; rintro e w3 ⟨rfl, h3⟩; have y := ten_held (by assumption) h3)
      | (go_at_call 35; refine (K4.out _).mono ?_; rintro e w3 ⟨rfl, h3⟩; have y := ten_held (by assumption) h3)
      | (go_at_call 36; refine (awake15_walk _).mono ?_; rintro e w3 ⟨rfl, h3⟩; have y := ten_held (by assumption) h3))
  all_goals
    have hb3 := y.2.2.2.2.2.2.2.2.2.2.2
    have hbw3 := HAL.out.trans (hb3.mono HAL.out.size)
    go_wp2_with fail
    go_ret
    exact ⟨rfl, hbw3⟩
end Go.Proofs.Ytnjojbanbcahnaa
