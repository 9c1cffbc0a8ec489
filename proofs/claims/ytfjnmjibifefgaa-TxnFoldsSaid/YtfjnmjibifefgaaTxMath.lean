/- Plain mathematics of transactions' rows. -/
import Derived.Test.YtfjnmjibifefgaaTr
import Derived.Test.YtfjnmjibifefgaaTrFind
namespace Go.Proofs.Ytfjnmjibifefgaa
open Go.RowKit Vm
set_option linter.unusedVariables false

def MayN (k p m : Int) : Prop := (1 ≤ k ∧ k ≤ 5) ∧ (1 ≤ p ∧ p ≤ 8) ∧ ((k ≠ 2 ∧ m = 0) ∨ (k = 2 ∧ 1 ≤ m ∧ m < 8192))
instance (k p m : Int) : Decidable (MayN k p m) := by unfold MayN; infer_instance
def OkT (l : List Tr) (i : Nat) : Prop := (1 ≤ (l.getD i tr0).p ∧ (l.getD i tr0).p ≤ 8) ∧ 1 ≤ (l.getD i tr0).e ∧ (l.getD i tr0).e ≤ 1099511627776 ∧ (0 < i → (l.getD (i - 1) tr0).p < (l.getD i tr0).p)
def PreT (l : List Tr) (k : Nat) : Prop := ∀ i, i < k → OkT l i
theorem PreT.zero (l : List Tr) : PreT l 0 := fun i h => by omega
theorem PreT.succ {l : List Tr} {k : Nat} (h : PreT l k) (ho : OkT l k) : PreT l (k + 1) := fun i hi => by
  rcases Nat.lt_or_ge i k with h1 | h1
  · exact h i h1
  · rw [show i = k from by omega]; exact ho
def RightT (l : List Tr) : Prop := PreT l l.length
theorem preT_nat {l : List Tr} {k : Nat} (h : PreT l k) : ∀ i, i < k → (i : Int) + 1 ≤ (l.getD i tr0).p := by
  intro i
  induction i with
  | zero => intro hi; have := (h 0 hi).1.1; omega
  | succ i ih =>
    intro hi
    have h1 := ih (by omega)
    have h2 := (h (i + 1) hi).2.2.2 (by omega)
    rw [show i + 1 - 1 = i from by omega] at h2
    omega
theorem preT_le {l : List Tr} {k : Nat} (h : PreT l k) : k ≤ 8 := by
  rcases Nat.lt_or_ge 8 k with h1 | h1
  · have h2 := preT_nat h 8 h1
    have h3 := (h 8 h1).1.2
    omega
  · exact h1

theorem rightT_asc {l : List Tr} (h : RightT l) : AscR trKey tr0 l := by
  apply ascR_step
  intro i hi
  have := (h (i + 1) hi).2.2.2 (by omega)
  simpa [trKey] using this
/-- What becomes of a row. -/
def turnT (x : Tr) (k m : Int) : Option Tr :=
  if k = 1 then (if x.s = 1 then some ⟨x.p, x.e + 1, 1, 0, 0⟩ else none) else
  if k = 2 then (if x.s = 1 ∨ x.s = 2 then some ⟨x.p, x.e, 2, bits .or .i64 x.m m, x.l⟩ else none) else
  if k = 3 then (if x.s = 2 then some ⟨x.p, x.e, 3, x.m, x.l⟩ else none) else
  if k = 4 then (if x.s = 2 then some ⟨x.p, x.e, 4, x.m, x.l⟩ else none) else
  (if x.s = 3 ∨ x.s = 4 then some ⟨x.p, x.e + 1, 1, 0, x.s⟩ else none)
theorem turnT_key {x y : Tr} {k m : Int} (h : turnT x k m = some y) : y.p = x.p := by
  unfold turnT at h
  repeat' split at h
  all_goals first | (injection h with h; subst h; rfl) | cases h
/-- The rows behind a note: D, an error E. -/
def FdIs (l : List Tr) (k p m : Int) (D : List Tr) (E : Int) : Prop :=
  (¬ (MayN k p m ∧ RightT l) ∧ D = [] ∧ E = 1) ∨
  ((MayN k p m ∧ RightT l) ∧ getR trKey l p = none ∧ ((k ≠ 1 ∧ D = [] ∧ E = 3) ∨ (k = 1 ∧ D = putR trKey l ⟨p, 1, 1, 0, 0⟩ ∧ E = 0))) ∨
  ((MayN k p m ∧ RightT l) ∧ ∃ x, getR trKey l p = some x ∧ ((turnT x k m = none ∧ D = [] ∧ E = 9) ∨ ∃ y, turnT x k m = some y ∧ ((1099511627776 < y.e ∧ D = [] ∧ E = 6) ∨ (y.e ≤ 1099511627776 ∧ D = putR trKey l y ∧ E = 0))))
theorem fdIs_ex (l : List Tr) (k p m : Int) : ∃ D E, FdIs l k p m D E := by
  by_cases hg : MayN k p m ∧ RightT l
  · cases hx : getR trKey l p with
    | none =>
      by_cases hk : k = 1
      · exact ⟨_, _, .inr (.inl ⟨hg, hx, .inr ⟨hk, rfl, rfl⟩⟩)⟩
      · exact ⟨_, _, .inr (.inl ⟨hg, hx, .inl ⟨hk, rfl, rfl⟩⟩)⟩
    | some x =>
      cases hy : turnT x k m with
      | none => exact ⟨_, _, .inr (.inr ⟨hg, x, hx, .inl ⟨hy, rfl, rfl⟩⟩)⟩
      | some y =>
        by_cases he : 1099511627776 < y.e
        · exact ⟨_, _, .inr (.inr ⟨hg, x, hx, .inr ⟨y, hy, .inl ⟨he, rfl, rfl⟩⟩⟩)⟩
        · exact ⟨_, _, .inr (.inr ⟨hg, x, hx, .inr ⟨y, hy, .inr ⟨by omega, rfl, rfl⟩⟩⟩)⟩
  · exact ⟨_, _, .inl ⟨hg, rfl, rfl⟩⟩
theorem fdIs_len {l D : List Tr} {k p m E : Int} (h : FdIs l k p m D E) : D.length ≤ 9 := by
  rcases h with ⟨_, rfl, _⟩ | ⟨hg, _, ⟨_, rfl, _⟩ | ⟨_, rfl, _⟩⟩ | ⟨hg, x, _, ⟨_, rfl, _⟩ | ⟨y, _, ⟨_, rfl, _⟩ | ⟨_, rfl, _⟩⟩⟩
  · simp
  · simp
  · have := putR_len trKey l ⟨p, 1, 1, 0, 0⟩; have := preT_le hg.2; omega
  · simp
  · simp
  · have := putR_len trKey l y; have := preT_le hg.2; omega
end Go.Proofs.Ytfjnmjibifefgaa
