/- Layer 9: what is fair, and what stays. Plain mathematics. -/
import Derived.Test.YtafibgekikjlhaaAsRSticky
namespace Go.Proofs.Ytafibgekikjlhaa
open Go.RowKit Vm As
set_option linter.unusedVariables false
set_option linter.unusedSimpArgs false

def sumC (L s : List Int) : Nat := (s.map (cnt L)).sum
theorem cnt_cons (y : Int) (L : List Int) (x : Int) : cnt (y :: L) x = cnt L x + if y = x then 1 else 0 := by
  unfold cnt
  rw [List.count_cons]
  simp
theorem sumC_cons (y : Int) (L : List Int) : ∀ s : List Int, sumC (y :: L) s = sumC L s + s.count y := by
  intro s
  induction s with
  | nil => rfl
  | cons z s ih =>
    unfold sumC at ih ⊢
    rw [List.map_cons, List.map_cons, List.sum_cons, List.sum_cons, ih, cnt_cons, List.count_cons]
    by_cases h : y = z
    · subst h; simp; omega
    · simp [h, Ne.symm h]; omega
theorem count_one {m : List Int} (hm : m.Pairwise (· < ·)) {y : Int} (hy : y ∈ m) : m.count y = 1 := by
  induction m with
  | nil => cases hy
  | cons z m ih =>
    obtain ⟨h1, h2⟩ := List.pairwise_cons.1 hm
    rw [List.count_cons]
    rcases List.mem_cons.1 hy with rfl | hy
    · have : m.count y = 0 := List.count_eq_zero.2 (fun h => by have := h1 y h; omega)
      rw [this]; simp
    · have hne : z ≠ y := by have := h1 y hy; omega
      rw [ih h2 hy]; simp [hne]
theorem sumC_all {m : List Int} (hm : m.Pairwise (· < ·)) (hp : ∀ x ∈ m, 0 < x) : ∀ L : List Int, (∀ y ∈ L, y = 0 ∨ y ∈ m) → sumC L m + L.count 0 = L.length := by
  intro L
  induction L with
  | nil =>
    intro _
    have : sumC [] m = 0 := by
      unfold sumC
      clear hm hp
      induction m with
      | nil => rfl
      | cons z m ih => rw [List.map_cons, List.sum_cons, ih (fun y hy => by cases hy)]; simp [cnt]
    rw [this]; rfl
  | cons y L ih =>
    intro h
    have h1 := ih (fun z hz => h z (List.mem_cons_of_mem _ hz))
    rw [sumC_cons, List.count_cons, List.length_cons]
    rcases h y (List.mem_cons_self ..) with rfl | hy
    · have : m.count 0 = 0 := List.count_eq_zero.2 (fun h => by have := hp 0 h; omega)
      rw [this]; simp; omega
    · have hy0 : y ≠ 0 := by have := hp y hy; omega
      rw [count_one hm hy]; simp [hy0]; omega
theorem sumC_abv (L : List Int) (q : Nat) : ∀ s : List Int, (∀ x ∈ s, q ≤ cnt L x ∧ cnt L x ≤ q + 1) → sumC L s = s.length * q + abv L s q := by
  intro s
  induction s with
  | nil => intro _; simp [sumC, abv]
  | cons z s ih =>
    intro h
    have h1 := ih (fun x hx => h x (List.mem_cons_of_mem _ hx))
    obtain ⟨h2, h3⟩ := h z (List.mem_cons_self ..)
    unfold sumC abv at h1 ⊢
    rw [List.map_cons, List.sum_cons, List.countP_cons, List.length_cons, Nat.add_mul, h1]
    by_cases hz : q < cnt L z
    · simp [hz]; omega
    · simp [hz]; omega
theorem sumC_low (L : List Int) (c : Nat) : ∀ s : List Int, (∀ x ∈ s, c ≤ cnt L x) → s.length * c ≤ sumC L s := by
  intro s
  induction s with
  | nil => intro _; simp [sumC]
  | cons z s ih =>
    intro h
    have h1 := ih (fun x hx => h x (List.mem_cons_of_mem _ hx))
    have h2 := h z (List.mem_cons_self ..)
    unfold sumC at h1 ⊢
    rw [List.map_cons, List.sum_cons, List.length_cons, Nat.add_mul]; omega
theorem poor_min (m L : List Int) : ∀ j t, t < j → cnt L (poorTo m L j) ≤ cnt L (m.getD t 0) := by
  intro j
  induction j with
  | zero => intro t h; omega
  | succ j ih =>
    intro t ht
    rw [poorTo]
    split
    · next h =>
      by_cases e : t = j
      · subst e; exact Nat.le_refl _
      · have := ih t (by omega); omega
    · next h =>
      by_cases e : t = j
      · subst e; omega
      · exact ih t (by omega)
/-- Fair so far. -/
def FairI (M : Nat) (m L : List Int) : Prop := L.length = M ∧ (∀ y ∈ L, y = 0 ∨ y ∈ m) ∧ (∀ x ∈ m, cnt L x ≤ M / m.length + 1) ∧ abv L m (M / m.length) ≤ M % m.length
theorem mem_set {l : List Int} {i : Nat} {x y : Int} (h : y ∈ l.set i x) : y = x ∨ y ∈ l := by
  rcases List.mem_or_eq_of_mem_set h with h | h
  · exact .inr h
  · exact .inl h
theorem fair_grant {M : Nat} {m L : List Int} {i : Nat} {o : Int} (hm : m.Pairwise (· < ·)) (hp : ∀ x ∈ m, 0 < x) (h : FairI M m L) (hi : i < M) (h0 : L.getD i 0 = 0) (ho : o ∈ m)
    (hg : cnt L o < M / m.length ∨ (cnt L o = M / m.length ∧ abv L m (M / m.length) < M % m.length)) : FairI M m (L.set i o) := by
  obtain ⟨h1, h2, h3, h4⟩ := h
  have ho0 : o ≠ 0 := by have := hp o ho; omega
  obtain ⟨c1, c2⟩ := cnt_set (l := L) (i := i) (by omega) h0 ho0
  obtain ⟨a1, a2⟩ := abv_set (n := M / m.length) hm hp ho (by omega) h0
  refine ⟨by simp [h1], fun y hy => ?_, fun x hx => ?_, ?_⟩
  · rcases mem_set hy with rfl | hy
    · exact .inr ho
    · exact h2 y hy
  · by_cases hxo : x = o
    · subst hxo
      rw [c1]
      rcases hg with hg | hg <;> omega
    · rw [c2 x hxo (by have := hp x hx; omega)]; exact h3 x hx
  · rcases hg with hg | ⟨hg1, hg2⟩
    · rw [a1 hg]; exact h4
    · rw [a2 hg1]; omega
theorem fair_start (M : Nat) (m : List Int) (hp : ∀ x ∈ m, 0 < x) : FairI M m (List.replicate M 0) := by
  refine ⟨by simp, fun y hy => .inl (List.eq_of_mem_replicate hy), fun x hx => ?_, ?_⟩
  · rw [cnt_zero M x (hp x hx)]; exact Nat.zero_le _
  · rw [abv_zero m M _ hp]; exact Nat.zero_le _
theorem fair_keep (M : Nat) (m old : List Int) (hm : m.Pairwise (· < ·)) (hp : ∀ x ∈ m, 0 < x) : ∀ i, i ≤ M → FairI M m (keepTo M m old i) := by
  intro i
  induction i with
  | zero => intro _; exact fair_start M m hp
  | succ i ih =>
    intro hi
    rw [keepTo]
    unfold step1
    split
    · next h => exact fair_grant hm hp (ih (by omega)) (by omega) (keepTo_zero M m old i i (Nat.le_refl _)) h.1 h.2
    · exact ih (by omega)
theorem zero_count {L : List Int} {i : Nat} (hi : i < L.length) (h : L.getD i 0 = 0) : 1 ≤ L.count 0 := by
  have : (0 : Int) ∈ L := by
    rw [← h, show L.getD i 0 = L[i] from by simp [List.getD, hi]]; exact List.getElem_mem hi
  exact List.count_pos_iff.2 this
theorem fair_fill (M : Nat) (m L : List Int) (hm : m.Pairwise (· < ·)) (hp : ∀ x ∈ m, 0 < x) (hk : 0 < m.length) (hL : FairI M m L) : ∀ i, i ≤ M → FairI M m (fillTo m L i) ∧ ∀ p, p < i → (fillTo m L i).getD p 0 ≠ 0 := by
  intro i
  induction i with
  | zero => intro _; exact ⟨hL, fun p hp => by omega⟩
  | succ i ih =>
    intro hi
    obtain ⟨F, hz⟩ := ih (by omega)
    rw [fillTo]
    unfold step2
    split
    · next h0 =>
      generalize hG : fillTo m L i = G at F hz h0
      obtain ⟨f1, f2, f3, f4⟩ := F
      have hx := poorTo_mem (R := G) hk m.length (Nat.le_refl _)
      have hmin : ∀ y ∈ m, cnt G (poorTo m G m.length) ≤ cnt G y := fun y hy => by
        obtain ⟨j, hj, rfl⟩ := List.mem_iff_getElem.1 hy
        have := poor_min m G m.length j hj
        rwa [show m.getD j 0 = m[j] from by simp [List.getD, hj]] at this
      generalize poorTo m G m.length = x at hx hmin
      have hs := sumC_all hm hp G f2
      have hzc := zero_count (L := G) (i := i) (by omega) h0
      have hdm := Nat.div_add_mod M m.length
      have hmod := Nat.mod_lt M hk
      have hg : cnt G x < M / m.length ∨ (cnt G x = M / m.length ∧ abv G m (M / m.length) < M % m.length) := by
        rcases Nat.lt_or_ge (cnt G x) (M / m.length) with h | h
        · exact .inl h
        · right
          rcases Nat.eq_or_lt_of_le h with h | h
          · have e := sumC_abv G (M / m.length) m (fun y hy => ⟨by have := hmin y hy; omega, f3 y hy⟩)
            exact ⟨h.symm, by omega⟩
          · have e := sumC_low G (M / m.length + 1) m (fun y hy => by have := hmin y hy; omega)
            rw [Nat.mul_add] at e
            omega
      refine ⟨fair_grant hm hp ⟨f1, f2, f3, f4⟩ (by omega) h0 hx hg, fun p hpi => ?_⟩
      by_cases e : p = i
      · subst e
        have hpl : p < G.length := by omega
        simp [List.getD, hpl]
        have := hp x hx; omega
      · rw [show (G.set i x).getD p 0 = G.getD p 0 from by simp [List.getD, List.getElem?_set, show i ≠ p by omega]]
        exact hz p (by omega)
    · next h0 =>
      refine ⟨F, fun p hpi => ?_⟩
      by_cases e : p = i
      · subst e; exact h0
      · exact hz p (by omega)
/-- Fair, and all given. -/
def FairL (M : Nat) (m L : List Int) : Prop := FairI M m L ∧ ∀ y ∈ L, y ∈ m
theorem fair_sticky (M : Nat) (m old : List Int) (hm : m.Pairwise (· < ·)) (hp : ∀ x ∈ m, 0 < x) (hk : 0 < m.length) : FairL M m (stickyL M m old) := by
  unfold stickyL
  rw [if_neg (by intro h; rw [h] at hk; simp at hk)]
  obtain ⟨F, hz⟩ := fair_fill M m _ hm hp hk (fair_keep M m old hm hp (min M old.length) (by omega)) M (Nat.le_refl _)
  refine ⟨F, fun y hy => ?_⟩
  rcases F.2.1 y hy with rfl | h
  · obtain ⟨j, hj, e⟩ := List.mem_iff_getElem.1 hy
    have := hz j (by have := F.1; omega)
    rw [List.getD, List.getElem?_eq_getElem hj] at this
    simp [e] at this
  · exact h
theorem cnt_app (a b : List Int) (x : Int) : cnt (a ++ b) x = cnt a x + cnt b x := by unfold cnt; rw [List.count_append]
theorem cnt_part {A : List Int} {n : Nat} {x : Int} (hx : 0 < x) : cnt (part A n) x = cnt A x := by
  unfold part
  rw [cnt_app, cnt_zero _ x hx]; rfl
/-- What is fair already is granted whole. -/
theorem keep_all {M : Nat} {m R : List Int} (hm : m.Pairwise (· < ·)) (hp : ∀ x ∈ m, 0 < x) (h : FairL M m R) : ∀ i, i ≤ M → keepTo M m R i = part (R.take i) M := by
  obtain ⟨⟨h1, _, h3, h4⟩, h5⟩ := h
  intro i
  induction i with
  | zero => intro _; simp [keepTo, part]
  | succ i ih =>
    intro hi
    have hil : i < R.length := by omega
    rw [keepTo, ih (by omega)]
    have ho : R.getD i 0 ∈ m := h5 _ (memGet hil)
    generalize hoe : R.getD i 0 = o at ho
    have htk : R.take (i + 1) = R.take i ++ [o] := by rw [take_one_more R i hil, hoe]
    have hopos := hp o ho
    have hc1 : cnt (R.take i) o + 1 ≤ cnt R o := by
      have e : R = R.take (i + 1) ++ R.drop (i + 1) := (List.take_append_drop _ _).symm
      have e2 := cnt_app (R.take (i + 1)) (R.drop (i + 1)) o
      rw [List.take_append_drop, htk, cnt_app] at e2
      have : cnt [o] o = 1 := by simp [cnt]
      omega
    have h3o := h3 o ho
    have hle : ∀ x ∈ m, cnt (R.take i) x ≤ cnt R x := fun x _ => by
      have e2 := cnt_app (R.take i) (R.drop i) x
      rw [List.take_append_drop] at e2
      omega
    have hcond : o ∈ m ∧ (cnt (part (R.take i) M) o < M / m.length ∨ (cnt (part (R.take i) M) o = M / m.length ∧ abv (part (R.take i) M) m (M / m.length) < M % m.length)) := by
      refine ⟨ho, ?_⟩
      rw [cnt_part hopos]
      rcases Nat.lt_or_ge (cnt (R.take i) o) (M / m.length) with hlt | hge
      · exact .inl hlt
      · have heq : cnt (R.take i) o = M / m.length := by omega
        refine .inr ⟨heq, Nat.lt_of_lt_of_le ?_ h4⟩
        generalize M / m.length = q at heq h3o
        have key : ∀ s : List Int, (∀ x ∈ s, x ∈ m) → abv (part (R.take i) M) s q + (if o ∈ s then 1 else 0) ≤ abv R s q := by
          intro s
          induction s with
          | nil => intro _; simp [abv]
          | cons z s ihs =>
            intro hs
            have hs2 := ihs (fun x hx => hs x (List.mem_cons_of_mem _ hx))
            have hz := hs z (List.mem_cons_self ..)
            have hzl := hle z hz
            unfold abv at hs2 ⊢
            rw [List.countP_cons, List.countP_cons, cnt_part (hp z hz)]
            by_cases hzo : o = z
            · subst hzo
              have e1 : ¬ q < cnt (R.take i) o := by omega
              have e2 : q < cnt R o := by omega
              simp only [e1, e2, decide_true, decide_false, List.mem_cons, true_or, if_true]
              by_cases hos : o ∈ s
              · simp [hos] at hs2 ⊢; omega
              · simp [hos] at hs2 ⊢; omega
            · by_cases e1 : q < cnt (R.take i) z
              · have e2 : q < cnt R z := by omega
                by_cases hos : o ∈ s
                · simp [hos, e1, e2, hzo] at hs2 ⊢; omega
                · simp [hos, e1, e2, hzo] at hs2 ⊢; omega
              · by_cases hos : o ∈ s
                · simp [hos, e1, hzo] at hs2 ⊢; omega
                · simp [hos, e1, hzo] at hs2 ⊢; omega
        have := key m (fun x hx => hx)
        rw [if_pos ho] at this
        omega
    unfold step1
    rw [if_pos hcond, htk]
    have hl : (R.take i).length = i := by rw [List.length_take]; omega
    have := part_set (A := R.take i) (n := M) (by omega) o
    rw [hl] at this
    exact this
theorem fill_none {m L : List Int} (h : ∀ p, p < L.length → L.getD p 0 ≠ 0) : ∀ i, i ≤ L.length → fillTo m L i = L := by
  intro i
  induction i with
  | zero => intro _; rfl
  | succ i ih =>
    intro hi
    rw [fillTo, ih (by omega)]
    unfold step2
    rw [if_neg (h i (by omega))]
/-- What is fair stays. -/
theorem fair_stays {M : Nat} {m R : List Int} (hm : m.Pairwise (· < ·)) (hp : ∀ x ∈ m, 0 < x) (hk : 0 < m.length) (h : FairL M m R) : stickyL M m R = R := by
  have hl := h.1.1
  unfold stickyL
  rw [if_neg (by intro h; rw [h] at hk; simp at hk), hl, Nat.min_self, keep_all hm hp h M (Nat.le_refl _), List.take_of_length_le (by omega), part_full hl]
  have := fill_none (m := m) (L := R) (fun p hpl => by
    have := hp _ (h.2 _ (memGet hpl)); omega) R.length (Nat.le_refl _)
  rwa [hl] at this
theorem cnt_repl (n : Nat) (y x : Int) : cnt (List.replicate n y) x = if y = x then n else 0 := by
  unfold cnt
  rw [List.count_replicate]
  simp
theorem asc_ne {m : List Int} (hm : m.Pairwise (· < ·)) {i j : Nat} (hi : i < m.length) (hj : j < m.length) (h : i ≠ j) : m.getD i 0 ≠ m.getD j 0 := by
  rw [show m.getD i 0 = m[i] from by simp [List.getD, hi], show m.getD j 0 = m[j] from by simp [List.getD, hj]]
  rcases Nat.lt_or_gt_of_ne h with h | h
  · have := List.pairwise_iff_getElem.1 hm i j hi hj h; omega
  · have := List.pairwise_iff_getElem.1 hm j i hj hi h; omega
theorem rng_cnt (M : Nat) {m : List Int} (hm : m.Pairwise (· < ·)) {j : Nat} (hj : j < m.length) : ∀ i, i ≤ m.length → cnt (rngTo M m i) (m.getD j 0) = if j < i then share M m.length j else 0 := by
  intro i
  induction i with
  | zero => intro _; simp [rngTo, cnt]
  | succ i ih =>
    intro hi
    rw [rngTo, cnt_app, ih (by omega), cnt_repl]
    by_cases e : i = j
    · subst e
      simp
    · rw [if_neg (asc_ne hm (by omega) hj e)]
      by_cases h : j < i
      · rw [if_pos h, if_pos (by omega)]; rfl
      · rw [if_neg h, if_neg (by omega)]
theorem rng_mem (M : Nat) (m : List Int) : ∀ i, i ≤ m.length → ∀ y ∈ rngTo M m i, y ∈ m := by
  intro i
  induction i with
  | zero => intro _ y hy; cases hy
  | succ i ih =>
    intro hi y hy
    rw [rngTo] at hy
    rcases List.mem_append.1 hy with hy | hy
    · exact ih (by omega) y hy
    · rw [List.eq_of_mem_replicate hy]; exact memGet (by omega)
theorem fair_range (M : Nat) {m : List Int} (hm : m.Pairwise (· < ·)) (hk : 0 < m.length) : FairL M m (rangeL M m) := by
  unfold rangeL
  rw [if_neg (by intro h; rw [h] at hk; simp at hk)]
  have hc : ∀ j, j < m.length → cnt (rngTo M m m.length) (m.getD j 0) = share M m.length j := fun j hj => by
    rw [rng_cnt M hm hj _ (Nat.le_refl _), if_pos hj]
  have hmem := rng_mem M m m.length (Nat.le_refl _)
  refine ⟨⟨rngTo_all M m hk, fun y hy => .inr (hmem y hy), fun x hx => ?_, ?_⟩, hmem⟩
  · obtain ⟨j, hj, rfl⟩ := List.mem_iff_getElem.1 hx
    have := hc j hj
    rw [show m.getD j 0 = m[j] from by simp [List.getD, hj]] at this
    rw [this]; unfold share; split <;> omega
  · have hmod := Nat.mod_lt M hk
    unfold abv
    rw [← List.take_append_drop (M % m.length) m]
    generalize hrs : M % m.length = rs at hmod
    rw [List.take_append_drop, ← List.take_append_drop rs m, List.countP_append, List.take_append_drop]
    have h1 : (m.take rs).countP (fun x => decide (M / m.length < cnt (rngTo M m m.length) x)) ≤ rs := by
      refine Nat.le_trans List.countP_le_length ?_
      rw [List.length_take]; omega
    have h2 : (m.drop rs).countP (fun x => decide (M / m.length < cnt (rngTo M m m.length) x)) = 0 := by
      rw [List.countP_eq_zero]
      intro x hx
      obtain ⟨j, hj, rfl⟩ := List.mem_iff_getElem.1 hx
      rw [List.length_drop] at hj
      rw [List.getElem_drop]
      have := hc (rs + j) (by omega)
      rw [show m.getD (rs + j) 0 = m[rs + j]'(by omega) from by simp [List.getD, show rs + j < m.length by omega]] at this
      rw [this]
      unfold share
      rw [if_neg (by omega)]
      simp
    omega
theorem sticky_twice (p : Int) (xs os : List Int) : stickyF p xs (stickyF p xs os) = stickyF p xs os := by
  have hm := memL_is xs
  unfold stickyF
  by_cases h : okP p = true
  · rw [if_pos h, if_pos h]
    rcases Nat.eq_zero_or_pos (memL xs).length with h0 | h0
    · have h1 : memL xs = [] := List.eq_nil_of_length_eq_zero h0
      unfold stickyL; rw [if_pos h1]; rw [if_pos h1]
    · exact fair_stays hm.1 (fun x hx => ((hm.2 x).1 hx).2) h0 (fair_sticky _ _ _ hm.1 (fun x hx => ((hm.2 x).1 hx).2) h0)
  · rw [if_neg h, if_neg h]
theorem sticky_range (p : Int) (xs : List Int) : stickyF p xs (rangeF p xs) = rangeF p xs := by
  have hm := memL_is xs
  unfold stickyF rangeF
  by_cases h : okP p = true
  · rw [if_pos h, if_pos h]
    rcases Nat.eq_zero_or_pos (memL xs).length with h0 | h0
    · have h1 : memL xs = [] := List.eq_nil_of_length_eq_zero h0
      unfold stickyL rangeL; rw [if_pos h1]; rw [if_pos h1]
    · exact fair_stays hm.1 (fun x hx => ((hm.2 x).1 hx).2) h0 (fair_range _ hm.1 h0)
  · rw [if_neg h, if_neg h]
theorem sticky_mem {p : Int} {xs os : List Int} {y : Int} (h : y ∈ stickyF p xs os) : y = 0 ∨ y ∈ xs := by
  have hm := memL_is xs
  unfold stickyF at h
  split at h
  · rcases Nat.eq_zero_or_pos (memL xs).length with h0 | h0
    · have h1 : memL xs = [] := List.eq_nil_of_length_eq_zero h0
      unfold stickyL at h; rw [if_pos h1] at h
      exact .inl (List.eq_of_mem_replicate h)
    · exact .inr ((hm.2 y).1 ((fair_sticky _ _ _ hm.1 (fun x hx => ((hm.2 x).1 hx).2) h0).2 y h)).1
  · cases h
theorem range_mem {p : Int} {xs : List Int} {y : Int} (h : y ∈ rangeF p xs) : y = 0 ∨ y ∈ xs := by
  have hm := memL_is xs
  unfold rangeF at h
  split at h
  · rcases Nat.eq_zero_or_pos (memL xs).length with h0 | h0
    · have h1 : memL xs = [] := List.eq_nil_of_length_eq_zero h0
      unfold rangeL at h; rw [if_pos h1] at h
      exact .inl (List.eq_of_mem_replicate h)
    · exact .inr ((hm.2 y).1 ((fair_range _ hm.1 h0).2 y h)).1
  · cases h
end Go.Proofs.Ytafibgekikjlhaa
