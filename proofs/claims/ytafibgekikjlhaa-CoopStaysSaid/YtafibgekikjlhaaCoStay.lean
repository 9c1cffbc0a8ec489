/- When one more joins: plain mathematics. -/
import Derived.Test.YtafibgekikjlhaaCoDoes
namespace Go.Proofs.Ytafibgekikjlhaa
open Go.RowKit Vm As
set_option linter.unusedVariables false
set_option linter.unusedSimpArgs false

theorem cnt_take_le (R : List Int) (i : Nat) (x : Int) : cnt (R.take i) x ≤ cnt R x := by
  have e2 := cnt_app (R.take i) (R.drop i) x
  rw [List.take_append_drop] at e2
  omega
theorem cnt_snoc (R : List Int) {i : Nat} (h : i < R.length) (x : Int) : cnt (R.take (i + 1)) x = cnt (R.take i) x + if R.getD i 0 = x then 1 else 0 := by
  rw [take_one_more R i h, cnt_app]
  unfold cnt
  rw [List.count_singleton]
  by_cases e : R.getD i 0 = x <;> simp [e]
theorem step1_cnt {least rest : Nat} {m l : List Int} {i : Nat} {o : Int} (hi : i < l.length) (h0 : l.getD i 0 = 0) (hp : ∀ x ∈ m, 0 < x) {x : Int} (hx : x ≠ 0) :
    cnt (step1 least rest m l i o) x = cnt l x + if o = x ∧ o ∈ m ∧ (cnt l o < least ∨ (cnt l o = least ∧ abv l m least < rest)) then 1 else 0 := by
  unfold step1
  by_cases h : o ∈ m ∧ (cnt l o < least ∨ (cnt l o = least ∧ abv l m least < rest))
  · rw [if_pos h]
    have ho0 : o ≠ 0 := by have := hp o h.1; omega
    obtain ⟨c1, c2⟩ := cnt_set hi h0 ho0
    by_cases e : o = x
    · subst e
      rw [c1, if_pos ⟨rfl, h⟩]
    · rw [c2 x (fun e2 => e e2.symm) hx, if_neg (fun h2 => e h2.1)]; rfl
  · rw [if_neg h, if_neg (fun h2 => h h2.2)]; rfl
theorem abv_mono {a b m : List Int} {n : Nat} (h : ∀ x ∈ m, cnt a x ≤ cnt b x) : abv a m n ≤ abv b m n := by
  unfold abv
  induction m with
  | nil => simp
  | cons y m ih =>
    have h1 := ih (fun x hx => h x (List.mem_cons_of_mem _ hx))
    have h2 := h y (List.mem_cons_self ..)
    rw [List.countP_cons, List.countP_cons]
    by_cases h3 : n < cnt a y
    · have h4 : n < cnt b y := by omega
      simp only [h3, h4, decide_true]
      simp only [if_true]
      omega
    · simp only [h3, decide_false]
      have : (if false = true then 1 else 0) = 0 := rfl
      simp only [Bool.false_eq_true, if_false]
      omega
theorem keep_mono (P : Nat) {m old : List Int} (hp : ∀ x ∈ m, 0 < x) : ∀ j i, i + j ≤ P → ∀ x ∈ m, cnt (keepTo P m old i) x ≤ cnt (keepTo P m old (i + j)) x := by
  intro j
  induction j with
  | zero => intro i _ x _; exact Nat.le_refl _
  | succ j ih =>
    intro i hi x hx
    refine Nat.le_trans (ih i (by omega) x hx) ?_
    rw [show i + (j + 1) = i + j + 1 by omega, keepTo, step1_cnt (by rw [keepTo_len]; omega) (keepTo_zero P m old (i + j) (i + j) (Nat.le_refl _)) hp (by have := hp x hx; omega)]
    omega
/-- At the least so many are kept. -/
theorem keep_least (P : Nat) {m old : List Int} (hp : ∀ x ∈ m, 0 < x) (hl : old.length = P) {x : Int} (hx : x ∈ m) : ∀ i, i ≤ P → min (cnt (old.take i) x) (P / m.length) ≤ cnt (keepTo P m old i) x := by
  intro i
  induction i with
  | zero => intro _; simp [cnt]
  | succ i ih =>
    intro hi
    have h1 := ih (by omega)
    have hx0 : x ≠ 0 := by have := hp x hx; omega
    rw [keepTo, step1_cnt (by rw [keepTo_len]; omega) (keepTo_zero P m old i i (Nat.le_refl _)) hp hx0, cnt_snoc old (by omega)]
    by_cases e : old.getD i 0 = x
    · rw [if_pos e]
      by_cases hc : cnt (keepTo P m old i) x < P / m.length
      · rw [if_pos ⟨e, by rw [e]; exact hx, .inl (by rw [e]; exact hc)⟩]; omega
      · omega
    · rw [if_neg e, if_neg (fun h => e h.1)]; omega
/-- Where no rest was used up all is kept up to one more. -/
theorem keep_upto (P : Nat) {m old : List Int} (hp : ∀ x ∈ m, 0 < x) (hl : old.length = P) (ha : abv (keepTo P m old P) m (P / m.length) < P % m.length) {x : Int} (hx : x ∈ m) : ∀ i, i ≤ P → cnt (keepTo P m old i) x = min (cnt (old.take i) x) (P / m.length + 1) := by
  intro i
  induction i with
  | zero => intro _; rw [keepTo, cnt_zero P x (hp x hx)]; simp [cnt]
  | succ i ih =>
    intro hi
    have h1 := ih (by omega)
    have hx0 : x ≠ 0 := by have := hp x hx; omega
    have hm : abv (keepTo P m old i) m (P / m.length) < P % m.length := Nat.lt_of_le_of_lt (abv_mono (fun y hy => by
      have := keep_mono P (old := old) hp (P - i) i (by omega) y hy
      rwa [show i + (P - i) = P by omega] at this)) ha
    rw [keepTo, step1_cnt (by rw [keepTo_len]; omega) (keepTo_zero P m old i i (Nat.le_refl _)) hp hx0, cnt_snoc old (by omega)]
    by_cases e : old.getD i 0 = x
    · rw [if_pos e]
      by_cases hc : cnt (keepTo P m old i) x ≤ P / m.length
      · rw [if_pos ⟨e, by rw [e]; exact hx, by rw [e]; exact (Nat.eq_or_lt_of_le hc).elim (fun h => .inr ⟨h, hm⟩) (fun h => .inl h)⟩]; omega
      · rw [if_neg (fun h => by rcases h.2.2 with h2 | h2 <;> (rw [e] at h2; omega))]; omega
    · rw [if_neg e, if_neg (fun h => e h.1)]; omega
theorem sumC_snoc (L M : List Int) (y : Int) : sumC L (M ++ [y]) = sumC L M + cnt L y := by
  unfold sumC
  rw [List.map_append, List.sum_append]; simp
theorem sumC_perm (L : List Int) {a b : List Int} (h : a.Perm b) : sumC L a = sumC L b := by
  unfold sumC
  exact (h.map _).sum_nat
theorem abv_perm (L : List Int) {a b : List Int} (n : Nat) (h : a.Perm b) : abv L a n = abv L b n := by unfold abv; exact h.countP_eq _
theorem abv_snoc (L M : List Int) (y : Int) (n : Nat) (h : ¬ n < cnt L y) : abv L (M ++ [y]) n = abv L M n := by
  unfold abv
  rw [List.countP_append]
  simp [h]
theorem keep_from {P : Nat} {m old : List Int} : ∀ i p, (keepTo P m old i).getD p 0 = 0 ∨ (keepTo P m old i).getD p 0 = old.getD p 0 := by
  intro i
  induction i with
  | zero => intro p; left; rw [keepTo]; simp only [List.getD_eq_getElem?_getD, List.getElem?_replicate]; split <;> rfl
  | succ i ih =>
    intro p
    rw [keepTo]
    unfold step1
    split
    · rw [getD_set]
      split
      · next h => right; rw [h.1]
      · exact ih p
    · exact ih p
/-- All that is granted anew goes to the new one. -/
theorem grow_ok {P : Nat} {M M' H : List Int} {m : Int} (hM : M.Pairwise (· < ·)) (hMp : ∀ x ∈ M, 0 < x) (hk : 0 < M.length) (hm : m ∉ M) (hm0 : 0 < m) (hM' : M'.Pairwise (· < ·)) (hperm : M'.Perm (M ++ [m])) (hF : FairL P M H) {p : Nat} (hpP : p < P) :
    (stickyL P M' H).getD p 0 = H.getD p 0 ∨ (stickyL P M' H).getD p 0 = m := by
  have hl' : M'.length = M.length + 1 := by rw [hperm.length_eq]; simp
  have hmem : ∀ x, x ∈ M' ↔ x ∈ M ∨ x = m := fun x => by rw [hperm.mem_iff, List.mem_append, List.mem_singleton]
  have hMp' : ∀ x ∈ M', 0 < x := fun x hx => by
    rcases (hmem x).1 hx with h | h
    · exact hMp x h
    · omega
  have hlow := fair_low hM hMp hF
  have hsumH := fair_sum hM hMp hF
  have hl : H.length = P := hF.1.1
  have hup := hF.1.2.2.1
  have hq : P / M'.length ≤ P / M.length := Nat.div_le_div_left (by omega) hk
  have hmd2 : M.length * (P / M'.length) + P / M'.length + P % M'.length = P := by
    have e : ∀ z, M'.length * z = M.length * z + z := fun z => by rw [hl', Nat.add_mul, Nat.one_mul]
    have h := Nat.div_add_mod P M'.length
    rw [e] at h
    exact h
  have hmod := Nat.mod_lt P (show 0 < M'.length by omega)
  have hF2 := fair_keep P M' H hM' hMp' P (Nat.le_refl _)
  have hleast : ∀ x ∈ M, P / M'.length ≤ cnt (keepTo P M' H P) x := fun x hx => by
    have := keep_least P hMp' hl ((hmem x).2 (.inl hx)) P (Nat.le_refl _)
    rw [List.take_of_length_le (by omega)] at this
    have := hlow x hx
    omega
  have hcm : cnt (keepTo P M' H P) m = 0 := by
    have h1 : cnt H m = 0 := by
      unfold cnt
      exact List.count_eq_zero.2 (fun h => hm (hF.2 m h))
    have key : ∀ i, i ≤ P → cnt (keepTo P M' H i) m = 0 := by
      intro i
      induction i with
      | zero => intro _; rw [keepTo, cnt_zero P m hm0]
      | succ i ih =>
        intro hi
        rw [keepTo, step1_cnt (by rw [keepTo_len]; omega) (keepTo_zero P M' H i i (Nat.le_refl _)) hMp' (by omega), ih (by omega), if_neg]
        intro h
        have : H.getD i 0 ∈ H := getD_mem0 (by omega)
        exact hm (h.1 ▸ hF.2 _ this)
    exact key P (Nat.le_refl _)
  obtain ⟨K, hK⟩ : ∃ K, keepTo P M' H P = K := ⟨_, rfl⟩
  have hA : P % M'.length ≤ abv K M (P / M'.length) := by
    apply Classical.byContradiction
    intro hc
    have ha : abv (keepTo P M' H P) M' (P / M'.length) < P % M'.length := by
      rw [hK, abv_perm K _ hperm, abv_snoc K M m _ (by rw [← hK, hcm]; exact Nat.not_lt_zero _)]
      omega
    have hmin : ∀ x ∈ M, cnt K x = min (cnt H x) (P / M'.length + 1) := fun x hx => by
      have := keep_upto P hMp' hl ha ((hmem x).2 (.inl hx)) P (Nat.le_refl _)
      rwa [hK, List.take_of_length_le (by omega)] at this
    by_cases hex : ∃ x ∈ M, cnt H x ≤ P / M'.length
    · obtain ⟨x, hx, hxl⟩ := hex
      have h1 := hlow x hx
      have hqq : P / M.length = P / M'.length := by omega
      rw [hqq] at hlow hup
      have h2 := sumC_abv H (P / M'.length) M (fun y hy => ⟨hlow y hy, hup y hy⟩)
      have h3 : abv K M (P / M'.length) = abv H M (P / M'.length) := by
        unfold abv
        refine List.countP_congr fun y hy => ?_
        rw [hmin y hy]
        have := hup y hy
        simp only [decide_eq_true_eq]
        omega
      omega
    · have h3 : abv K M (P / M'.length) = M.length := by
        unfold abv
        rw [List.countP_eq_length]
        intro y hy
        have h4 : ¬ cnt H y ≤ P / M'.length := fun h => hex ⟨y, hy, h⟩
        rw [hmin y hy]
        simp only [decide_eq_true_eq]
        omega
      omega
  have hKup : ∀ x ∈ M, cnt K x ≤ P / M'.length + 1 := fun x hx => by
    have := hF2.2.2.1 x ((hmem x).2 (.inl hx))
    rwa [hK] at this
  rw [hK] at hleast hcm hF2
  have hsumK := sumC_abv K (P / M'.length) M (fun y hy => ⟨hleast y hy, hKup y hy⟩)
  -- behind the keeping
  have hst : stickyL P M' H = fillTo M' K P := by
    unfold stickyL
    rw [if_neg (by intro h; rw [h] at hl'; simp at hl'), hl, Nat.min_self, hK]
  rw [hst]
  have key : ∀ i, i ≤ P → (FairI P M' (fillTo M' K i)) ∧ (∀ x ∈ M, cnt K x ≤ cnt (fillTo M' K i) x) ∧ ((fillTo M' K i).getD p 0 = 0 ∨ (fillTo M' K i).getD p 0 = H.getD p 0 ∨ (fillTo M' K i).getD p 0 = m) := by
    intro i
    induction i with
    | zero =>
      intro _
      refine ⟨hF2, fun _ _ => Nat.le_refl _, ?_⟩
      rw [fillTo, ← hK]
      rcases keep_from (P := P) (m := M') (old := H) P p with h | h
      · exact .inl h
      · exact .inr (.inl h)
    | succ i ih =>
      intro hi
      obtain ⟨f, g1, g2⟩ := ih (by omega)
      have fn := (fair_fill P M' K hM' hMp' (by omega) hF2 (i + 1) hi).1
      obtain ⟨G, hG⟩ : ∃ G, fillTo M' K i = G := ⟨_, rfl⟩
      have hs : fillTo M' K (i + 1) = step2 M' G i := by rw [fillTo, hG]
      rw [hG] at f g1 g2
      rw [hs] at fn ⊢
      refine ⟨fn, ?_, ?_⟩
      · intro x hx
        unfold step2
        split
        · next h0 =>
          have hpm := poorTo_mem (R := G) (show 0 < M'.length by omega) M'.length (Nat.le_refl _)
          obtain ⟨c1, c2⟩ := cnt_set (l := G) (i := i) (o := poorTo M' G M'.length) (by have := f.1; omega) h0 (by have := hMp' _ hpm; omega)
          by_cases e : x = poorTo M' G M'.length
          · rw [e, c1, ← e]; have := g1 x hx; omega
          · rw [c2 x e (by have := hMp x hx; omega)]; exact g1 x hx
        · exact g1 x hx
      · unfold step2
        split
        · next h0 =>
          rw [getD_set]
          split
          · right; right
            -- the poorest is the new one
            have hpm := poorTo_mem (R := G) (show 0 < M'.length by omega) M'.length (Nat.le_refl _)
            have hmin : cnt G (poorTo M' G M'.length) ≤ cnt G m := by
              obtain ⟨j, hj, he⟩ := List.mem_iff_getElem.1 ((hmem m).2 (.inr rfl))
              have := poor_min M' G M'.length j hj
              rwa [show M'.getD j 0 = M'[j] from by simp [List.getD, hj], he] at this
            rcases (hmem _).1 hpm with h | h
            · exfalso
              have h1 := g1 _ h
              have h2 := hleast _ h
              have hs1 := sumC_all hM' hMp' G f.2.1
              rw [sumC_perm G hperm, sumC_snoc] at hs1
              have hz : 1 ≤ G.count 0 := List.count_pos_iff.2 (by rw [← h0]; exact getD_mem0 (by have := f.1; omega))
              have hsg : sumC K M ≤ sumC G M := by
                unfold sumC
                clear hsumK hs1 hsumH
                have : ∀ s : List Int, (∀ x ∈ s, x ∈ M) → (s.map (cnt K)).sum ≤ (s.map (cnt G)).sum := by
                  intro s
                  induction s with
                  | nil => intro _; exact Nat.le_refl _
                  | cons z s ih2 =>
                    intro hs2
                    rw [List.map_cons, List.map_cons, List.sum_cons, List.sum_cons]
                    have h5 := ih2 (fun x hx => hs2 x (List.mem_cons_of_mem _ hx))
                    have h6 := g1 z (hs2 z (List.mem_cons_self ..))
                    omega
                exact this M (fun x hx => hx)
              have h7 := f.1
              omega
            · exact h
          · exact g2
        · exact g2
  obtain ⟨_, _, h3⟩ := key P (Nat.le_refl _)
  rcases h3 with h3 | h3
  · exfalso
    exact (fair_fill P M' K hM' hMp' (by omega) hF2 P (Nat.le_refl _)).2 p hpP h3
  · exact h3
/-- How many are to be given up by the first so many. -/
def sumRev (C : Co) (p : Nat) (l : List Int) : Nat := (l.map fun x => (revTo C x p).length).sum
theorem sumRev_le {C : Co} {m : Int} (l : List Int) (hn : l.Nodup) (hlW : C.W.length = C.H.length) (hsp : ∀ p, p < C.H.length → C.W.getD p 0 = C.H.getD p 0 ∨ C.W.getD p 0 = m) : ∀ p, p ≤ C.H.length → sumRev C p l ≤ cnt (C.W.take p) m := by
  intro p
  induction p with
  | zero =>
    intro _
    have : sumRev C 0 l = 0 := by
      unfold sumRev
      clear hn
      induction l with
      | nil => rfl
      | cons z l ih => rw [List.map_cons, List.sum_cons, ih]; rfl
    rw [this]; exact Nat.zero_le _
  | succ p ih =>
    intro hp
    have h1 := ih (by omega)
    have e : sumRev C (p + 1) l = sumRev C p l + (l.map fun x => if surp C x p = true then 1 else 0).sum := by
      unfold sumRev
      clear hn h1 ih
      induction l with
      | nil => rfl
      | cons z l ih =>
        rw [List.map_cons, List.map_cons, List.map_cons, List.sum_cons, List.sum_cons, List.sum_cons, ih]
        have : (revTo C z (p + 1)).length = (revTo C z p).length + (if surp C z p = true then 1 else 0) := by
          rw [revTo, List.length_append]
          split <;> rfl
        omega
    have h2 : (l.map fun x => if surp C x p = true then 1 else 0).sum ≤ if C.W.getD p 0 = m then 1 else 0 := by
      by_cases hw : C.W.getD p 0 = m
      · rw [if_pos hw]
        clear h1 e ih
        induction l with
        | nil => simp
        | cons z l ih =>
          obtain ⟨hz, hn2⟩ := List.nodup_cons.1 hn
          rw [List.map_cons, List.sum_cons]
          by_cases hs : surp C z p = true
          · rw [if_pos hs]
            have hz0 : ∀ s : List Int, (∀ x ∈ s, x ≠ z) → (s.map fun x => if surp C x p = true then 1 else 0).sum = 0 := by
              intro s
              induction s with
              | nil => intro _; rfl
              | cons y s ih2 =>
                intro hy
                rw [List.map_cons, List.sum_cons, ih2 (fun x hx => hy x (List.mem_cons_of_mem _ hx)), if_neg]
                unfold surp at hs ⊢
                rw [Bool.and_eq_true] at hs ⊢
                intro h
                have a1 := beq_iff_eq.1 hs.1
                have a2 := beq_iff_eq.1 h.1
                exact hy y (List.mem_cons_self ..) (a2.symm.trans a1)
            rw [hz0 l (fun x hx e => hz (e ▸ hx))]
            exact Nat.le_refl _
          · rw [if_neg hs]
            have := ih hn2
            omega
      · rw [if_neg hw]
        have hh := (hsp p (by omega)).resolve_right hw
        have hz0 : ∀ s : List Int, (s.map fun x => if surp C x p = true then 1 else 0).sum = 0 := by
          intro s
          induction s with
          | nil => rfl
          | cons y s ih2 =>
            rw [List.map_cons, List.sum_cons, ih2, if_neg]
            unfold surp
            rw [hh, Bool.and_eq_true]
            intro h
            exact (bne_iff_ne.1 h.2) (beq_iff_eq.1 h.1)
        rw [hz0 l]; exact Nat.le_refl _
    rw [e, cnt_snoc C.W (by omega)]
    omega
/-- What CoopStays asks of the state behind the joining. -/
structure StayOk (C : Co) (m : Int) : Prop where
  own : revL C m = []
  few : ∀ i, i ≤ C.M.length → sumRev C C.H.length (C.M.take i) ≤ cnt C.W m
  one : C.M.length ≤ 1 → sumRev C C.H.length C.M = 0
theorem rev_none {C : Co} {x : Int} (h : C.H = C.W) : ∀ p, revTo C x p = [] := by
  intro p
  induction p with
  | zero => rfl
  | succ p ih =>
    unfold revTo
    rw [ih, if_neg]
    · rfl
    · unfold surp
      rw [h]
      simp
theorem sumRev_zero {C : Co} (h : C.H = C.W) (p : Nat) : ∀ l, sumRev C p l = 0 := by
  intro l
  unfold sumRev
  induction l with
  | nil => rfl
  | cons z l ih => rw [List.map_cons, List.sum_cons, ih, rev_none h]; rfl
theorem stays_ok {C : Co} {K : Nat} {m : Int} (hok : COk C K) (hr : C.H = C.W) (hj : joinE C [m] = 0) : StayOk (joinC C [m]) m := by
  have hJ := joinOk hj
  have hC' : joinC C [m] = begC (addM C [m]) := by unfold joinC; rw [if_pos hj]; rfl
  have hBO := addM_ok hok.b hJ
  have hok' := joinC_ok (l := [m]) hok
  have hm : m ∉ C.M := hJ.ln m (by simp)
  have hmr := hJ.lr m (by simp)
  have hperm : (sortL (C.M ++ [m])).Perm (C.M ++ [m]) := List.mergeSort_perm _ _
  rw [hC'] at hok' ⊢
  have hMe : (begC (addM C [m])).M = sortL (C.M ++ [m]) := rfl
  have hWe : (begC (addM C [m])).W = wantF (addM C [m]) := rfl
  have hHe : (begC (addM C [m])).H = giveL C.H (wantF (addM C [m])) := rfl
  by_cases hne : C.M = []
  · have hz : ∀ x ∈ C.H, x = 0 := fun x hx => by
      rcases hok.b.hz x hx with h | h
      · exact h
      · rw [hne] at h; cases h
    have hlw : (wantF (addM C [m])).length = C.H.length := wantF_len hBO.h0 (by have := hBO.h1; omega)
    have hHW : (begC (addM C [m])).H = (begC (addM C [m])).W := by
      rw [hHe, hWe]
      apply ext_getD
      · rw [giveL_len _ _ hlw.symm, hlw]
      · intro p hp
        rw [giveL_len _ _ hlw.symm] at hp
        rw [giveL_at hp (by omega), if_pos (hz _ (getD_mem0 hp))]
    refine ⟨?_, fun i _ => by rw [sumRev_zero hHW]; exact Nat.zero_le _, fun _ => sumRev_zero hHW _ _⟩
    unfold revL
    split
    · exact rev_none hHW _
    · rfl
  · have hk : 0 < C.M.length := List.length_pos_iff.2 hne
    have hpos : ∀ x ∈ C.H, x ≠ 0 := fun x hx => by have := hok.b.mp x (hok.full hne x hx); omega
    have hgive : ∀ W : List Int, W.length = C.H.length → giveL C.H W = C.H := fun W hW => by
      apply ext_getD
      · rw [giveL_len _ _ hW.symm]
      · intro p hp
        rw [giveL_len _ _ hW.symm] at hp
        rw [giveL_at hp (by omega), if_neg (hpos _ (getD_mem0 hp))]
    have hlw : (wantF (addM C [m])).length = C.H.length := wantF_len hBO.h0 (by have := hBO.h1; omega)
    have hH : (begC (addM C [m])).H = C.H := by rw [hHe, hgive _ hlw]
    have hokP : okP (C.H.length : Int) = true := by have := hok.b.h0; have := hok.b.h1; unfold okP; simp; omega
    have hW : (begC (addM C [m])).W = stickyL C.H.length (sortL (C.M ++ [m])) C.H := by
      rw [hWe]
      unfold wantF
      show stickyF (C.H.length : Int) (sortL (C.M ++ [m])) (giveL C.H C.W) = _
      rw [hgive _ hok.b.wl]
      unfold stickyF
      have hms := memL_self hBO.ms hBO.mp
      rw [if_pos hokP, show memL (sortL (C.M ++ [m])) = sortL (C.M ++ [m]) from hms, Int.toNat_natCast]
    have hF : FairL C.H.length C.M C.H := by
      rcases hok.fw.2 with ⟨e, _⟩ | ⟨_, f⟩
      · exact absurd e hne
      · rw [← hr] at f; exact f
    have hsp : ∀ p, p < (begC (addM C [m])).H.length → (begC (addM C [m])).W.getD p 0 = (begC (addM C [m])).H.getD p 0 ∨ (begC (addM C [m])).W.getD p 0 = m := fun p hp => by
      rw [hH] at hp ⊢
      rw [hW]
      exact grow_ok hok.b.ms hok.b.mp hk hm (by omega) hBO.ms hperm hF hp
    have hlen2 : 2 ≤ (begC (addM C [m])).M.length := by rw [hMe, sortL_len, List.length_append, List.length_singleton]; omega
    refine ⟨?_, fun i _ => ?_, fun h => by omega⟩
    · have : ∀ p, p ≤ C.H.length → revTo (begC (addM C [m])) m p = [] := by
        intro p
        induction p with
        | zero => intro _; rfl
        | succ p ih =>
          intro hp
          unfold revTo
          rw [ih (by omega), if_neg]
          · rfl
          · unfold surp
            rw [hH, Bool.and_eq_true]
            intro h
            have := beq_iff_eq.1 h.1
            exact hm (this ▸ hok.full hne _ (getD_mem0 (show p < C.H.length by omega)))
      unfold revL
      split
      · rw [hH]; exact this _ (Nat.le_refl _)
      · rfl
    · have hnd : ((begC (addM C [m])).M.take i).Nodup := (hok'.b.ms.imp (fun h => by omega) : (begC (addM C [m])).M.Nodup).sublist (List.take_sublist _ _)
      have := sumRev_le (C := begC (addM C [m])) (m := m) _ hnd hok'.b.wl hsp _ (Nat.le_refl _)
      rw [show (begC (addM C [m])).W.take (begC (addM C [m])).H.length = (begC (addM C [m])).W from List.take_of_length_le (by rw [hok'.b.wl]; exact Nat.le_refl _)] at this
      exact this
theorem sumRev_snoc (C : Co) (p : Nat) (l : List Int) {i : Nat} (h : i < l.length) : sumRev C p (l.take (i + 1)) = sumRev C p (l.take i) + (revTo C (l.getD i 0) p).length := by
  rw [take_one_more l i h]
  unfold sumRev
  rw [List.map_append, List.sum_append]; simp
end Go.Proofs.Ytafibgekikjlhaa
