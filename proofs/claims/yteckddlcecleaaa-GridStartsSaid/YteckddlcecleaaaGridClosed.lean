/- The walks of grid.Closed and its reference, and the chapter's examples. -/
import Derived.Test.YteckddlcecleaaaGridStarts
import Derived.Test.YteckddlcecleaaaSame
namespace Go.Proofs.Yteckddlcecleaaa
open Go.RowKit Vm Gm
set_option linter.unusedVariables false

def closedB (s h l a m : Int) : Bool := decide (May s h l ∧ 0 ≤ m ∧ a ≤ m - s - l)
theorem closedB_yes {s h l a m : Int} (h1 : May s h l) (h2 : 0 ≤ m) (h3 : a ≤ m - s - l) : closedB s h l a m = true := by unfold closedB; exact decide_eq_true ⟨h1, h2, h3⟩
theorem closedB_no {s h l a m : Int} (h1 : ¬ (May s h l ∧ 0 ≤ m ∧ a ≤ m - s - l)) : closedB s h l a m = false := by unfold closedB; exact decide_eq_false h1

set_option maxRecDepth 100000 in
set_option maxHeartbeats 2000000 in
theorem closed_walk (s h l a m : Int) (w : World) (hs : I64 s) (hh : I64 h) (hl : I64 l) (ha : I64 a) (hm : I64 m) :
    Calls Try.prog 47 #[gv s h l, .int .i64 a, .int .i64 m] w fun e w' => e = .returned (.bool (closedB s h l a m)) ∧ Below w.heap.size w w' := by
  by_cases hy : May s h l
  · have HY := Lib.hid hy
    obtain ⟨h1, h2, h3, h4, h5, h6, _, _⟩ := hy
    unfold I64 at ha hm
    have c0 : ∀ w1, Below (w.heap.size + 1) (w.alloc (.cells #[.int .i64 s, .int .i64 h, .int .i64 l] 54)) w1 → w1.cell? ⟨w.heap.size, 0, none⟩ = some (.int .i64 s) := fun w1 g => by
      rw [g.cell (by simp)]; rw [World.cell?_alloc_at _ _ _ _ rfl]; rfl
    have c2 : ∀ w1, Below (w.heap.size + 1) (w.alloc (.cells #[.int .i64 s, .int .i64 h, .int .i64 l] 54)) w1 → w1.cell? ⟨w.heap.size, 2, none⟩ = some (.int .i64 l) := fun w1 g => by
      rw [g.cell (by simp)]; rw [World.cell?_alloc_at _ _ _ _ rfl]; rfl
    have C0 := Lib.hid c0
    have C2 := Lib.hid c2
    clear c0 c2
    by_cases hm0 : 0 ≤ m
    · by_cases hle : a ≤ m - s - l
      · have HB := Lib.hid (closedB_yes HY.out hm0 hle)
        have hle2 : a ≤ m - (s + l) := by omega
        go_enter Try.func47, Try.ntmps47
        go_wp2_with fail
        refine (check_yes s h l _ HY.out).mono ?_
        rintro e w1 ⟨rfl, g1⟩
        have g2 : Below (w.heap.size + 1) _ w1 := g1.mono (by simp)
        have d0 := C0.out _ g2
        have d2 := C2.out _ g2
        go_wp2
        go_ret
        exact ⟨by rw [HB.out]; rfl, ((Below.refl _ _).alloc (Nat.le_refl _) _).trans (g2.mono (by omega))⟩
      · have HB := Lib.hid (closedB_no (s := s) (h := h) (l := l) (a := a) (m := m) (fun x => hle x.2.2))
        have hle2 : ¬ a ≤ m - (s + l) := by omega
        have hd1 : decide (a ≤ m - s - l) = false := decide_eq_false hle
        have hd2 : decide (a ≤ m - (s + l)) = false := decide_eq_false hle2
        go_enter Try.func47, Try.ntmps47
        go_wp2_with fail
        refine (check_yes s h l _ HY.out).mono ?_
        rintro e w1 ⟨rfl, g1⟩
        have g2 : Below (w.heap.size + 1) _ w1 := g1.mono (by simp)
        have d0 := C0.out _ g2
        have d2 := C2.out _ g2
        go_wp2
        go_ret
        exact ⟨by rw [HB.out]; rfl, ((Below.refl _ _).alloc (Nat.le_refl _) _).trans (g2.mono (by omega))⟩
    · have HB := Lib.hid (closedB_no (s := s) (h := h) (l := l) (a := a) (m := m) (fun x => hm0 x.2.1))
      go_enter Try.func47, Try.ntmps47
      go_wp2_with fail
      refine (check_yes s h l _ HY.out).mono ?_
      rintro e w1 ⟨rfl, g1⟩
      have g2 : Below (w.heap.size + 1) _ w1 := g1.mono (by simp)
      go_wp2
      go_ret
      exact ⟨by rw [HB.out]; rfl, ((Below.refl _ _).alloc (Nat.le_refl _) _).trans (g2.mono (by omega))⟩
  · have HB := Lib.hid (closedB_no (s := s) (h := h) (l := l) (a := a) (m := m) (fun x => hy x.1))
    have HY := Lib.hid hy
    clear hy
    go_enter Try.func47, Try.ntmps47
    go_wp2_with fail
    refine (check_no s h l _ hs hh hl HY.out).mono ?_
    rintro e w1 ⟨rfl, g1⟩
    have g2 : Below (w.heap.size + 1) _ w1 := g1.mono (by simp)
    go_wp2
    go_ret
    exact ⟨by rw [HB.out]; rfl, ((Below.refl _ _).alloc (Nat.le_refl _) _).trans (g2.mono (by omega))⟩

theorem sl_new (w : World) (T : TypeId) (C : Array Value) : Sl (w.alloc (.cells C T)) (w.heap.size + 1) (some ⟨w.heap.size, 0, none⟩) C.toList := by
  refine .inr ⟨_, _, rfl, by omega, fun j u hu => ?_⟩
  rw [World.cell?_alloc_at _ _ _ _ rfl, Nat.zero_add]
  simpa using hu

end Go.Proofs.Yteckddlcecleaaa
