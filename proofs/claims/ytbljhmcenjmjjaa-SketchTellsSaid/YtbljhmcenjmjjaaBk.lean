/- Buckets as cells; which sketches may be; the share of a number of parts. -/
import Derived.Test.YtbljhmcenjmjjaaSk
import Derived.Test.YtbljhmcenjmjjaaSlice
import Derived.Test.YtbljhmcenjmjjaaRows
namespace Go.Proofs.Ytbljhmcenjmjjaa
open Go.RowKit Vm Sk
set_option linter.unusedVariables false

structure Bk where
  b : Int
  n : Int
def bk0 : Bk := ⟨0, 0⟩
def bkCells (l : List Bk) : List Value := l.flatMap fun r => [.int .i64 r.b, .int .i64 r.n]
theorem bkCells_length (l : List Bk) : (bkCells l).length = l.length * 2 := by
  induction l with
  | nil => rfl
  | cons r l ih => simp only [bkCells, List.flatMap_cons, List.length_append, List.length_cons, List.length_nil] at ih ⊢; omega
theorem bkCells_append (a b : List Bk) : bkCells (a ++ b) = bkCells a ++ bkCells b := by simp [bkCells]
theorem bkCells_snoc (l : List Bk) (r : Bk) : bkCells (l ++ [r]) = bkCells l ++ [.int .i64 r.b, .int .i64 r.n] := by rw [bkCells_append]; rfl
theorem bkCells_at (l : List Bk) (j : Nat) (h : j < l.length) : (bkCells l)[j * 2]? = some (.int .i64 (l.getD j bk0).b) ∧ (bkCells l)[j * 2 + 1]? = some (.int .i64 (l.getD j bk0).n) := by
  induction l generalizing j with
  | nil => cases h
  | cons r l ih =>
    have e : bkCells (r :: l) = [.int .i64 r.b, .int .i64 r.n] ++ bkCells l := rfl
    cases j with
    | zero => exact ⟨rfl, rfl⟩
    | succ j =>
      obtain ⟨h0, h1⟩ := ih j (by simpa using h)
      rw [e]
      refine ⟨?_, ?_⟩
      · rw [List.getElem?_append_right (by simp; omega)]; simpa [show (j + 1) * 2 - 2 = j * 2 from by omega] using h0
      · rw [List.getElem?_append_right (by simp; omega)]; simpa [show (j + 1) * 2 + 1 - 2 = j * 2 + 1 from by omega] using h1
theorem Sl.bk {w : World} {B : Nat} {a : Option Addr} {l : List Bk} (h : Sl w B a (bkCells l)) (h0 : 0 < l.length) :
    ∃ b off, a = some ⟨b, off, none⟩ ∧ b < B ∧ ∀ j, j < l.length → w.cell? ⟨b, off + j * 2, none⟩ = some (.int .i64 (l.getD j bk0).b) ∧ w.cell? ⟨b, off + j * 2 + 1, none⟩ = some (.int .i64 (l.getD j bk0).n) := by
  rcases h with h | ⟨b, off, e, hlt, hc⟩
  · have := congrArg List.length h
    rw [bkCells_length, List.length_nil] at this
    omega
  · exact ⟨b, off, e, hlt, fun j hj => ⟨hc _ _ (bkCells_at l j hj).1, hc _ _ (bkCells_at l j hj).2⟩⟩
def sumN (l : List Bk) : Int := (l.map Bk.n).sum
theorem sumN_take (l : List Bk) (k : Nat) (h : k < l.length) : sumN (l.take (k + 1)) = sumN (l.take k) + (l.getD k bk0).n := by
  unfold sumN
  rw [List.take_succ_eq_append_getElem h, List.map_append, List.sum_append]
  simp [List.getD, List.getElem?_eq_getElem h]
def OkAt (l : List Bk) (i : Nat) : Prop := -960 ≤ (l.getD i bk0).b ∧ (l.getD i bk0).b < 960 ∧ 1 ≤ (l.getD i bk0).n ∧ (l.getD i bk0).n ≤ 1099511627776 ∧ (0 < i → (l.getD (i - 1) bk0).b < (l.getD i bk0).b)
def Pre (l : List Bk) (k : Nat) : Prop := ∀ i, i < k → OkAt l i
theorem Pre.zero (l : List Bk) : Pre l 0 := fun i h => by omega
theorem Pre.succ {l : List Bk} {k : Nat} (h : Pre l k) (ho : OkAt l k) : Pre l (k + 1) := fun i hi => by
  rcases Nat.lt_or_ge i k with h1 | h1
  · exact h i h1
  · rw [show i = k from by omega]; exact ho
def MayS (l : List Bk) : Prop := Pre l l.length ∧ sumN l ≤ 1099511627776
theorem pre_sum {l : List Bk} (k : Nat) (hk : k ≤ l.length) (h : Pre l k) : (k : Int) ≤ sumN (l.take k) ∧ sumN (l.take k) ≤ k * 1099511627776 := by
  induction k with
  | zero => simp [sumN]
  | succ k ih =>
    have h1 := ih (by omega) (fun i hi => h i (by omega))
    have h2 := h k (by omega)
    unfold OkAt at h2
    rw [sumN_take l k (by omega)]
    omega
theorem sum_mono {l : List Bk} (k : Nat) (hk : k ≤ l.length) (h : Pre l l.length) : sumN (l.take k) ≤ sumN l := by
  have key : ∀ d, k + d ≤ l.length → sumN (l.take k) ≤ sumN (l.take (k + d)) := by
    intro d
    induction d with
    | zero => intro _; exact Int.le_refl _
    | succ d ih =>
      intro hd
      have h1 := ih (by omega)
      have h2 := h (k + d) (by omega)
      unfold OkAt at h2
      rw [show k + (d + 1) = (k + d) + 1 from by omega, sumN_take l (k + d) (by omega)]
      omega
  have := key (l.length - k) (by omega)
  rwa [show k + (l.length - k) = l.length from by omega, List.take_length] at this
/-- The share, rounded up, at the least 1. -/
def rankA (n part of : Int) : Int := if (n * part + of - 1) / of < 1 then 1 else (n * part + of - 1) / of
theorem rank_eq {n part of : Int} (hn : 0 ≤ n) (hp : 0 ≤ part) (ho : 1 ≤ of) :
    (n * part + of - 1) / of = n / of * part + n % of * part / of + (if 0 < n % of * part % of then 1 else 0) := by
  have h1 : n = of * (n / of) + n % of := (Int.mul_ediv_add_emod n of).symm
  have hr0 : 0 ≤ n % of := Int.emod_nonneg _ (by omega)
  have h2 : n % of * part = of * (n % of * part / of) + n % of * part % of := (Int.mul_ediv_add_emod _ of).symm
  have hs0 : 0 ≤ n % of * part % of := Int.emod_nonneg _ (by omega)
  have hs1 : n % of * part % of < of := Int.emod_lt_of_pos _ (by omega)
  generalize hq : n / of = q at *
  generalize hr : n % of = r at *
  have e1 : n * part = of * (q * part) + r * part := by rw [h1, Int.add_mul, Int.mul_assoc]
  generalize hx : r * part = x at *
  generalize hy : x / of = y at *
  generalize hz : x % of = z at *
  have e2 : n * part + of - 1 = of * (q * part + y) + (z + of - 1) := by rw [e1, h2, Int.mul_add]; omega
  rw [e2, Int.add_comm, Int.add_mul_ediv_left _ _ (by omega)]
  split
  · have : (z + of - 1) / of = 1 := by
      have h3 : z + of - 1 = (z - 1) + of * 1 := by omega
      rw [h3, Int.add_mul_ediv_left _ _ (by omega), Int.ediv_eq_zero_of_lt (by omega) (by omega)]; rfl
    omega
  · have : (z + of - 1) / of = 0 := Int.ediv_eq_zero_of_lt (by omega) (by omega)
    omega
theorem rank_le {n part of : Int} (hn : 0 ≤ n) (hp : 0 ≤ part) (hpo : part ≤ of) (ho : 1 ≤ of) : (n * part + of - 1) / of ≤ n := by
  have h1 : n * part ≤ n * of := Int.mul_le_mul_of_nonneg_left hpo hn
  have h2 : (n * part + of - 1) / of < n + 1 := by
    apply Int.ediv_lt_of_lt_mul (by omega)
    rw [Int.add_mul, Int.one_mul]
    omega
  omega
theorem mul_bound {n part : Int} (hn : 0 ≤ n) (hn2 : n ≤ 1099511627776) (hp : 0 ≤ part) (hp2 : part ≤ 1000000) : 0 ≤ n * part ∧ n * part ≤ 1099511627776000000 := by
  have h1 : n * part ≤ 1099511627776 * part := Int.mul_le_mul_of_nonneg_right hn2 hp
  exact ⟨Int.mul_nonneg hn hp, by omega⟩
end Go.Proofs.Ytbljhmcenjmjjaa
