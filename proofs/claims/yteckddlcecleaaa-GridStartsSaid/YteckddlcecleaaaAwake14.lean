/- The walk of chapter 14's examples. -/
import Derived.Test.YteckddlcecleaaaGridClosed
namespace Go.Proofs.Yteckddlcecleaaa
open Go.RowKit Vm Gm
set_option linter.unusedVariables false

set_option maxRecDepth 100000 in
set_option maxHeartbeats 2000000 in
theorem awake14_walk (w : World) :
    Calls Try.prog 34 #[] w fun e w' => e = .returned (.bool true) ∧ Below w.heap.size w w' := by
  have hm : May 10 5 2 := by decide
  have hs1 : starts 10 5 12 = [5, 10] := by decide
  have hs2 : starts 10 5 3 = [0] := by decide
  have hc1 : closedB 10 5 2 5 17 = true := by decide
  have hc2 : closedB 10 5 2 5 16 = false := by decide
  have S1 := Lib.hid (fun w => starts_yes 10 5 2 12 w hm (by omega) (by omega))
  have S2 := Lib.hid (fun w => starts_yes 10 5 2 3 w hm (by omega) (by omega))
  rw [hs1] at S1
  rw [hs2] at S2
  have c0 : ∀ w1, Below (w.heap.size + 1) (w.alloc (.cells #[.int .i64 10, .int .i64 5, .int .i64 2] 54)) w1 → w1.cell? ⟨w.heap.size, 0, none⟩ = some (.int .i64 10) ∧ w1.cell? ⟨w.heap.size, 1, none⟩ = some (.int .i64 5) ∧ w1.cell? ⟨w.heap.size, 2, none⟩ = some (.int .i64 2) := fun w1 g => by
    refine ⟨?_, ?_, ?_⟩ <;> (rw [g.cell (by simp), World.cell?_alloc_at _ _ _ _ rfl]; rfl)
  have C0 := Lib.hid c0
  clear hm hs1 hs2 c0
  go_enter Try.func34, Try.ntmps34
  go_wp2_with fail
  refine (S1.out _).mono ?_
  rintro e w1 ⟨g1, a1, k1, rfl, o1⟩
  have b1 : Below (w.heap.size + 1) _ w1 := g1.mono (by simp)
  obtain ⟨d0, d1, d2⟩ := C0.out _ b1
  go_wp2_with fail
  refine (S2.out _).mono ?_
  rintro e w2 ⟨g2, a2, k2, rfl, o2⟩
  have z1 : w.heap.size + 1 ≤ w1.heap.size := by have := b1.size; simpa using this
  have b2 : Below (w.heap.size + 1) _ w2 := b1.trans (g2.mono z1)
  have z2 : w.heap.size + 1 ≤ w2.heap.size := by have := g2.size; omega
  have sl1 := own_sl o1
  have sl2 := own_sl o2
  have I64c : I64 10 ∧ I64 5 ∧ I64 2 ∧ I64 17 ∧ I64 16 := by unfold I64; omega
  obtain ⟨d0, d1, d2⟩ := C0.out _ b2
  clear o1 o2
  go_wp2_with fail
  refine (same_at _ _ _ _ _ _ _ _ [5, 10] _ rfl rfl (by simp) (sl1.below (g2.alloc g2.size _) (Nat.le_refl _)) (sl_new w2 _ #[.int .i64 5, .int .i64 10])).mono ?_
  rintro e w3 ⟨rfl, g3⟩
  have b3 : Below (w.heap.size + 1) _ w3 := (b2.alloc z2 _).trans (g3.below _)
  have z3 : w2.heap.size + 1 ≤ w3.heap.size := by have := (g3.below 0).size; simpa using this
  obtain ⟨d0, d1, d2⟩ := C0.out _ b3
  have sl3 : Sl w3 w2.heap.size a2 (i64s [0]) := (sl2.below ((Below.refl w2.heap.size w2).alloc (Nat.le_refl _) (.cells #[.int .i64 5, .int .i64 10] 3)) (Nat.le_refl _)).drew g3
  go_wp2_with fail
  refine (same_at _ _ _ _ _ _ _ _ [0] _ rfl rfl (by simp) (sl3.below ((Below.refl w2.heap.size w3).alloc (by omega) _) (Nat.le_refl _)) (sl_new w3 _ #[.int .i64 0])).mono ?_
  rintro e w4 ⟨rfl, g4⟩
  have b4 : Below (w.heap.size + 1) _ w4 := (b3.alloc (by omega) _).trans (g4.below _)
  have z4 : w3.heap.size + 1 ≤ w4.heap.size := by have := (g4.below 0).size; simpa using this
  obtain ⟨d0, d1, d2⟩ := C0.out _ b4
  go_wp2_with fail
  refine (closed_walk 10 5 2 5 17 _ I64c.1 I64c.2.1 I64c.2.2.1 I64c.2.1 I64c.2.2.2.1).mono ?_
  rintro e w5 ⟨rfl, g5⟩
  have b5 : Below (w.heap.size + 1) _ w5 := b4.trans (g5.mono (by omega))
  have z5 : w4.heap.size ≤ w5.heap.size := g5.size
  obtain ⟨d0, d1, d2⟩ := C0.out _ b5
  go_wp2_with fail
  refine (closed_walk 10 5 2 5 16 _ I64c.1 I64c.2.1 I64c.2.2.1 I64c.2.1 I64c.2.2.2.2).mono ?_
  rintro e w6 ⟨rfl, g6⟩
  have b6 : Below (w.heap.size + 1) _ w6 := b5.trans (g6.mono (by omega))
  go_wp2_with fail
  go_ret
  exact ⟨rfl, ((Below.refl _ _).alloc (Nat.le_refl _) _).trans (b6.mono (by omega))⟩
end Go.Proofs.Yteckddlcecleaaa
