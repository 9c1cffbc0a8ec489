/- Plain mathematics of chapter 14: the windows of a moment. No program is imported. -/
import Derived.Test.YteckddlcecleaaaVm
namespace Go.Proofs.Yteckddlcecleaaa.Gm
open Vm

/-- May windows be? -/
def May (s h l : Int) : Prop := 1 ≤ s ∧ s ≤ 1048576 ∧ 1 ≤ h ∧ h ≤ s ∧ 0 ≤ l ∧ l ≤ 1048576 ∧ s % h = 0 ∧ s ≤ 8 * h
instance (s h l : Int) : Decidable (May s h l) := by unfold May; infer_instance

/-- c windows up to the one that begins at T, rising. -/
def asc (T h : Int) : Nat → List Int
  | 0 => []
  | c + 1 => (T - (c : Int) * h) :: asc T h c
theorem asc_length (T h : Int) (c : Nat) : (asc T h c).length = c := by
  induction c with
  | zero => rfl
  | succ c ih => simp [asc, ih]
theorem asc_get (T h : Int) (c : Nat) : ∀ (i : Nat) (hi : i < (asc T h c).length), (asc T h c)[i] = T - ((c : Int) - 1 - i) * h := by
  induction c with
  | zero => intro i hi; simp [asc] at hi
  | succ c ih =>
    intro i hi
    rcases i with _ | i
    · simp [asc]
    · rw [asc_length] at hi
      simp only [asc, List.getElem_cons_succ]
      rw [ih i (by rw [asc_length]; omega)]
      congr 2
      omega
/-- How many: as many as windows overlap, or have begun. -/
def cnt (s h t : Int) : Nat := (min (s / h) (t / h + 1)).toNat
def starts (s h t : Int) : List Int := asc (t / h * h) h (cnt s h t)
/-- The facts on one row of windows: n of them, q times Hop behind 0, F the first one's beginning. -/
theorem piece {s h t F : Int} {n q : Nat} (hh : 1 ≤ h) (hs : s = (n : Int) * h) (hq : t / h = (q : Int)) (hn : 1 ≤ n) (hF : F = t / h * h - s + h) (k : Nat) (hk : k < n) :
    (k < n - cnt s h t → F + (k : Int) * h < 0) ∧ (n - cnt s h t ≤ k → 0 ≤ F + (k : Int) * h ∧ (starts s h t)[k - (n - cnt s h t)]? = some (F + (k : Int) * h)) := by
  have hsn : s / h = (n : Int) := by rw [hs]; exact Int.mul_ediv_cancel _ (by omega)
  have hc : cnt s h t = min n (q + 1) := by unfold cnt; rw [hsn, hq]; omega
  have e : F + (k : Int) * h = ((q : Int) + 1 - n + k) * h := by
    rw [hF, hq, hs, Int.add_mul, Int.sub_mul, Int.add_mul]; omega
  rw [e, hc]
  constructor
  · intro h1
    have : ((q : Int) + 1 - n + k) ≤ -1 := by omega
    have := Int.mul_le_mul_of_nonneg_right this (by omega : 0 ≤ h)
    omega
  · intro h1
    have h2 : 0 ≤ (q : Int) + 1 - n + k := by omega
    refine ⟨Int.mul_nonneg h2 (by omega), ?_⟩
    have hl : k - (n - min n (q + 1)) < (starts s h t).length := by unfold starts; rw [asc_length, hc]; omega
    rw [List.getElem?_eq_getElem hl]
    congr 1
    have hg := asc_get (t / h * h) h (cnt s h t) (k - (n - min n (q + 1))) (by unfold starts at hl; exact hl)
    have hg2 : (starts s h t)[k - (n - min n (q + 1))] = t / h * h - ((cnt s h t : Int) - 1 - ((k - (n - min n (q + 1)) : Nat) : Int)) * h := hg
    rw [hg2, hc, hq, ← Int.sub_mul]
    congr 1
    omega
theorem starts_length {s h t : Int} : (starts s h t).length = cnt s h t := asc_length _ _ _
theorem cnt_le {s h t : Int} {n : Nat} (hh : 1 ≤ h) (hs : s = (n : Int) * h) : cnt s h t ≤ n := by
  have hsn : s / h = (n : Int) := by rw [hs]; exact Int.mul_ediv_cancel _ (by omega)
  unfold cnt; rw [hsn]; omega
theorem take_more {l : List Int} {j : Nat} {x : Int} (h : l[j]? = some x) : l.take (j + 1) = l.take j ++ [x] := by
  rw [List.take_add_one, h]; rfl
end Go.Proofs.Yteckddlcecleaaa.Gm
