/- The walk of headgatelaw09.fair. -/
import Derived.Test.YtafibgekikjlhaaAsFair
namespace Go.Proofs.Ytafibgekikjlhaa
open Go.RowKit Vm As
set_option linter.unusedVariables false
set_option linter.unusedSimpArgs false

theorem sumC_le (L : List Int) (q : Nat) : ∀ s : List Int, (∀ x ∈ s, cnt L x ≤ q + 1) → sumC L s ≤ s.length * q + abv L s q := by
  intro s
  induction s with
  | nil => intro _; simp [sumC]
  | cons z s ih =>
    intro h
    have h1 := ih (fun x hx => h x (List.mem_cons_of_mem _ hx))
    have h3 := h z (List.mem_cons_self ..)
    unfold sumC abv at h1 ⊢
    rw [List.map_cons, List.sum_cons, List.countP_cons, List.length_cons, Nat.add_mul]
    by_cases hz : q < cnt L z
    · simp [hz]; omega
    · simp [hz]; omega
theorem sumC_lt (L : List Int) (q : Nat) : ∀ s : List Int, (∀ x ∈ s, cnt L x ≤ q + 1) → (∃ x ∈ s, cnt L x < q) → sumC L s + 1 ≤ s.length * q + abv L s q := by
  intro s
  induction s with
  | nil => rintro _ ⟨x, hx, _⟩; cases hx
  | cons z s ih =>
    intro h he
    have h0 := sumC_le L q s (fun x hx => h x (List.mem_cons_of_mem _ hx))
    have h3 := h z (List.mem_cons_self ..)
    by_cases hz0 : cnt L z < q
    · unfold sumC abv at h0 ⊢
      rw [List.map_cons, List.sum_cons, List.countP_cons, List.length_cons, Nat.add_mul]
      have hz : ¬ q < cnt L z := by omega
      simp [hz]; omega
    · have h1 := ih (fun x hx => h x (List.mem_cons_of_mem _ hx)) (by
        obtain ⟨x, hx, hl⟩ := he
        rcases List.mem_cons.1 hx with rfl | hx
        · exact absurd hl hz0
        · exact ⟨x, hx, hl⟩)
      unfold sumC abv at h1 ⊢
      rw [List.map_cons, List.sum_cons, List.countP_cons, List.length_cons, Nat.add_mul]
      by_cases hz : q < cnt L z
      · simp [hz]; omega
      · simp [hz]; omega
theorem fair_sum {M : Nat} {m L : List Int} (hm : m.Pairwise (· < ·)) (hp : ∀ x ∈ m, 0 < x) (h : FairL M m L) : sumC L m = M := by
  have e := sumC_all hm hp L h.1.2.1
  have : L.count 0 = 0 := List.count_eq_zero.2 (fun h0 => by have := hp 0 (h.2 0 h0); omega)
  have := h.1.1
  omega
theorem fair_low {M : Nat} {m L : List Int} (hm : m.Pairwise (· < ·)) (hp : ∀ x ∈ m, 0 < x) (h : FairL M m L) : ∀ x ∈ m, M / m.length ≤ cnt L x := fun x hx => by
  rcases Nat.lt_or_ge (cnt L x) (M / m.length) with hl | hl
  · exfalso
    have e := sumC_lt L (M / m.length) m h.1.2.2.1 ⟨x, hx, hl⟩
    rw [fair_sum hm hp h] at e
    have h4 := h.1.2.2.2
    have hdm := Nat.div_add_mod M m.length
    omega
  · exact hl
theorem sumC_take (L m : List Int) (i : Nat) (h : i < m.length) : sumC L (m.take (i + 1)) = sumC L (m.take i) + cnt L (m.getD i 0) := by
  rw [take_one_more m i h]
  unfold sumC
  rw [List.map_append, List.sum_append]; simp
theorem sumC_take_le (L m : List Int) (i : Nat) : sumC L (m.take i) ≤ sumC L m := by
  have : sumC L m = sumC L (m.take i) + sumC L (m.drop i) := by
    unfold sumC
    rw [← List.sum_append, ← List.map_append, List.take_append_drop]
  omega
/-- What fair is asked of. -/
def FairOf (M : Nat) (m L : List Int) : Prop := L.length = M ∧ ((m = [] ∧ L = List.replicate M 0) ∨ (0 < m.length ∧ FairL M m L))
theorem fairOf_range (p : Int) (xs : List Int) (h : okP p = true) : FairOf p.toNat (memL xs) (rangeF p xs) := by
  have hm := memL_is xs
  unfold rangeF
  rw [if_pos h]
  refine ⟨rangeL_len _ _, ?_⟩
  rcases Nat.eq_zero_or_pos (memL xs).length with h0 | h0
  · have h1 : memL xs = [] := List.eq_nil_of_length_eq_zero h0
    exact .inl ⟨h1, by unfold rangeL; rw [if_pos h1]⟩
  · exact .inr ⟨h0, fair_range _ hm.1 h0⟩
theorem fairOf_sticky (p : Int) (xs os : List Int) (h : okP p = true) : FairOf p.toNat (memL xs) (stickyF p xs os) := by
  have hm := memL_is xs
  unfold stickyF
  rw [if_pos h]
  refine ⟨stickyL_len _ _ _, ?_⟩
  rcases Nat.eq_zero_or_pos (memL xs).length with h0 | h0
  · have h1 : memL xs = [] := List.eq_nil_of_length_eq_zero h0
    exact .inl ⟨h1, by unfold stickyL; rw [if_pos h1]⟩
  · exact .inr ⟨h0, fair_sticky _ _ _ hm.1 (fun x hx => ((hm.2 x).1 hx).2) h0⟩
end Go.Proofs.Ytafibgekikjlhaa
