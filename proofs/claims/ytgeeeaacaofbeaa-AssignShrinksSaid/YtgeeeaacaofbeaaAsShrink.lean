/- Layer 9: when members go, the others keep all. Plain mathematics. -/
import Derived.Test.YtgeeeaacaofbeaaAsFairW
namespace Go.Proofs.Ytgeeeaacaofbeaa
open Go.RowKit Vm As
set_option linter.unusedVariables false
set_option linter.unusedSimpArgs false

theorem part_zero {A : List Int} {n : Nat} (h : A.length < n) : part (A ++ [0]) n = part A n := by
  unfold part
  obtain ⟨k, hk⟩ : ∃ k, n - A.length = k + 1 := ⟨n - A.length - 1, by omega⟩
  rw [hk, List.length_append, show n - (A.length + [(0 : Int)].length) = k from by simp; omega, List.replicate_succ]
  simp
/-- What is fair so far is granted whole. -/
theorem keep_fair {M : Nat} {m R : List Int} (hm : m.Pairwise (· < ·)) (hp : ∀ x ∈ m, 0 < x) (h : FairI M m R) : ∀ i, i ≤ M → keepTo M m R i = part (R.take i) M := by
  obtain ⟨h1, h5, h3, h4⟩ := h
  intro i
  induction i with
  | zero => intro _; simp [keepTo, part]
  | succ i ih =>
    intro hi
    have hil : i < R.length := by omega
    rw [keepTo, ih (by omega)]
    have ho := h5 _ (memGet hil)
    generalize hoe : R.getD i 0 = o at ho
    have htk : R.take (i + 1) = R.take i ++ [o] := by rw [take_one_more R i hil, hoe]
    have hl : (R.take i).length = i := by rw [List.length_take]; omega
    rcases ho with ho | ho
    · subst ho
      unfold step1
      rw [if_neg (fun h => by have := hp 0 h.1; omega), htk, part_zero (by omega)]
    · have hopos := hp o ho
      have hc1 : cnt (R.take i) o + 1 ≤ cnt R o := by
        have e2 := cnt_app (R.take (i + 1)) (R.drop (i + 1)) o
        rw [List.take_append_drop, htk, cnt_app] at e2
        have : cnt [o] o = 1 := by simp [cnt]
        omega
      have h3o := h3 o ho
      have hle : ∀ x ∈ m, cnt (R.take i) x ≤ cnt R x := fun x _ => by
        have e2 := cnt_app (R.take i) (R.drop i) x
        rw [List.take_append_drop] at e2
        omega
      have hcond : o ∈ m ∧ (cnt (part (R.take i) M) o < M / m.length ∨ (cnt (part (R.take i) M) o = M / m.length ∧ abv (part (R.take i) M) m (M / m.length) < M % m.length)) := by
        refine ⟨ho, ?_⟩
        rw [cnt_part hopos]
        rcases Nat.lt_or_ge (cnt (R.take i) o) (M / m.length) with hlt | hge
        · exact .inl hlt
        · have heq : cnt (R.take i) o = M / m.length := by omega
          refine .inr ⟨heq, Nat.lt_of_lt_of_le ?_ h4⟩
          generalize M / m.length = q at heq h3o
          have key : ∀ s : List Int, (∀ x ∈ s, x ∈ m) → abv (part (R.take i) M) s q + (if o ∈ s then 1 else 0) ≤ abv R s q := by
            intro s
            induction s with
            | nil => intro _; simp [abv]
            | cons z s ihs =>
              intro hs
              have hs2 := ihs (fun x hx => hs x (List.mem_cons_of_mem _ hx))
              have hz := hs z (List.mem_cons_self ..)
              have hzl := hle z hz
              unfold abv at hs2 ⊢
              rw [List.countP_cons, List.countP_cons, cnt_part (hp z hz)]
              by_cases hzo : o = z
              · subst hzo
                have e1 : ¬ q < cnt (R.take i) o := by omega
                have e2 : q < cnt R o := by omega
                simp only [e1, e2, decide_true, decide_false, List.mem_cons, true_or, if_true]
                by_cases hos : o ∈ s
                · simp [hos] at hs2 ⊢; omega
                · simp [hos] at hs2 ⊢; omega
              · by_cases e1 : q < cnt (R.take i) z
                · have e2 : q < cnt R z := by omega
                  by_cases hos : o ∈ s
                  · simp [hos, e1, e2, hzo] at hs2 ⊢; omega
                  · simp [hos, e1, e2, hzo] at hs2 ⊢; omega
                · by_cases hos : o ∈ s
                  · simp [hos, e1, hzo] at hs2 ⊢; omega
                  · simp [hos, e1, hzo] at hs2 ⊢; omega
          have := key m (fun x hx => hx)
          rw [if_pos ho] at this
          omega
      unfold step1
      rw [if_pos hcond, htk]
      have := part_set (A := R.take i) (n := M) (by omega) o
      rw [hl] at this
      exact this
/-- Only those of m. -/
def onlyM (m R : List Int) : List Int := R.map fun y => if y ∈ m then y else 0
theorem onlyM_get (m R : List Int) (p : Nat) : (onlyM m R).getD p 0 = if R.getD p 0 ∈ m then R.getD p 0 else 0 := by
  unfold onlyM
  by_cases h : p < R.length
  · simp [List.getD, h]
  · simp [List.getD, h]
theorem onlyM_cnt (m : List Int) {x : Int} (hx : x ∈ m) (hx0 : x ≠ 0) : ∀ R : List Int, cnt (onlyM m R) x = cnt R x := by
  intro R
  induction R with
  | nil => rfl
  | cons y R ih =>
    have : onlyM m (y :: R) = (if y ∈ m then y else 0) :: onlyM m R := rfl
    rw [this, cnt_cons, cnt_cons, ih]
    by_cases hy : y ∈ m
    · rw [if_pos hy]
    · rw [if_neg hy, if_neg (Ne.symm hx0), if_neg (fun h => hy (by rw [h]; exact hx))]
theorem keep_only (M : Nat) (m R : List Int) (h0 : (0 : Int) ∉ m) : ∀ i, keepTo M m R i = keepTo M m (onlyM m R) i := by
  intro i
  induction i with
  | zero => rfl
  | succ i ih =>
    rw [keepTo, keepTo, ← ih, onlyM_get]
    by_cases h : R.getD i 0 ∈ m
    · rw [if_pos h]
    · rw [if_neg h]
      unfold step1
      rw [if_neg (fun hh => h hh.1), if_neg (fun hh => h0 hh.1)]
theorem sumC_sub (L : List Int) {s m : List Int} (h : s.Sublist m) : sumC L s ≤ sumC L m := by
  induction h with
  | slnil => exact Nat.le_refl _
  | cons a _ ih => unfold sumC at ih ⊢; rw [List.map_cons, List.sum_cons]; omega
  | cons_cons a _ ih => unfold sumC at ih ⊢; rw [List.map_cons, List.sum_cons, List.map_cons, List.sum_cons]; omega
/-- When members go, the others keep all that they had. -/
theorem shrink_ok {M : Nat} {m s R : List Int} (hm : m.Pairwise (· < ·)) (hp : ∀ x ∈ m, 0 < x) (hR : FairL M m R) (hs : s.Sublist m) (hk : 0 < s.length) {p : Nat} (hpM : p < M) (hx : R.getD p 0 ∈ s) : (stickyL M s R).getD p 0 = R.getD p 0 := by
  have hsm : s.Pairwise (· < ·) := hm.sublist hs
  have hsp : ∀ x ∈ s, 0 < x := fun x hx => hp x (hs.subset hx)
  have hkm : s.length ≤ m.length := hs.length_le
  have hq : M / m.length ≤ M / s.length := Nat.div_le_div_left hkm hk
  have h0 : (0 : Int) ∉ s := fun h => by have := hsp 0 h; omega
  have hlow := fair_low hm hp hR
  have hsum := fair_sum hm hp hR
  obtain ⟨⟨h1, _, h3, h4⟩, h5⟩ := hR
  have hup : ∀ x ∈ s, cnt R x ≤ M / s.length + 1 := fun x hx => by have := h3 x (hs.subset hx); omega
  have habv : abv R s (M / s.length) ≤ M % s.length := by
    rcases Nat.eq_or_lt_of_le hq with e | e
    · have h6 := sumC_abv R (M / s.length) s (fun x hx => ⟨by have := hlow x (hs.subset hx); omega, hup x hx⟩)
      have h7 := sumC_sub R hs
      have h8 := Nat.div_add_mod M s.length
      omega
    · have : abv R s (M / s.length) = 0 := by
        unfold abv
        rw [List.countP_eq_zero]
        intro x hx
        have := h3 x (hs.subset hx)
        simp; omega
      omega
  have F : FairI M s (onlyM s R) := by
    refine ⟨by simp [onlyM, h1], fun y hy => ?_, fun x hx => by rw [onlyM_cnt s hx (by have := hsp x hx; omega)]; exact hup x hx, ?_⟩
    · unfold onlyM at hy
      obtain ⟨z, _, rfl⟩ := List.mem_map.1 hy
      by_cases hz : z ∈ s
      · rw [if_pos hz]; exact .inr hz
      · rw [if_neg hz]; exact .inl rfl
    · have : abv (onlyM s R) s (M / s.length) = abv R s (M / s.length) := by
        unfold abv
        refine List.countP_congr fun x hx => ?_
        rw [onlyM_cnt s hx (by have := hsp x hx; omega)]
      rw [this]; exact habv
  unfold stickyL
  rw [if_neg (by intro h; rw [h] at hk; simp at hk), h1, Nat.min_self, keep_only M s R h0, keep_fair hsm hsp F M (Nat.le_refl _), List.take_of_length_le (by rw [F.1]; exact Nat.le_refl _), part_full F.1]
  have hg : (onlyM s R).getD p 0 = R.getD p 0 := by rw [onlyM_get, if_pos hx]
  have hx0 := hsp _ hx
  have key : ∀ i, (fillTo s (onlyM s R) i).getD p 0 = (onlyM s R).getD p 0 := by
    intro i
    induction i with
    | zero => rfl
    | succ i ih =>
      rw [fillTo]
      unfold step2
      split
      · next hz =>
        have hne : i ≠ p := by intro e; subst e; rw [ih, hg] at hz; omega
        rw [show ((fillTo s (onlyM s R) i).set i (poorTo s (fillTo s (onlyM s R) i) s.length)).getD p 0 = (fillTo s (onlyM s R) i).getD p 0 from by simp [List.getD, List.getElem?_set, hne]]
        exact ih
      · exact ih
  rw [key, hg]
end Go.Proofs.Ytgeeeaacaofbeaa
