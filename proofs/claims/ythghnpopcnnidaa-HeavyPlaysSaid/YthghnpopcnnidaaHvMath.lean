/- Heavy hitters as the document has them: plain mathematics. -/
import Derived.Test.YthghnpopcnnidaaTa
namespace Go.Proofs.Ythghnpopcnnidaa
open Go.RowKit Vm
set_option linter.unusedVariables false
set_option linter.unusedSimpArgs false

structure Hv where
  m : Nat
  s : Nat
  L : List Ta
def cntX (l : List Int) (x : Int) : Nat := l.count x
theorem cntX_snoc (l : List Int) (y x : Int) : cntX (l ++ [y]) x = cntX l x + if y = x then 1 else 0 := by
  unfold cntX
  rw [List.count_append, List.count_singleton]
  by_cases e : y = x <;> simp [e]
def hasK (L : List Ta) (x : Int) : Bool := L.any fun t => t.k == x
def idxK (L : List Ta) (x : Int) : Nat := L.findIdx fun t => t.k == x
theorem idxK_lt {L : List Ta} {x : Int} (h : hasK L x = true) : idxK L x < L.length ∧ (L.getD (idxK L x) ta0).k = x := by
  have h1 : idxK L x < L.length := by
    unfold idxK
    rw [List.findIdx_lt_length]
    obtain ⟨t, ht, he⟩ := List.any_eq_true.1 h
    exact ⟨t, ht, he⟩
  refine ⟨h1, ?_⟩
  have := List.findIdx_getElem (p := fun t : Ta => t.k == x) (xs := L) (w := h1)
  rw [show L.getD (idxK L x) ta0 = L[idxK L x] from by simp [List.getD, h1]]
  exact beq_iff_eq.1 this
theorem hasK_mem {L : List Ta} {x : Int} : hasK L x = true ↔ ∃ t ∈ L, t.k = x := by
  unfold hasK
  rw [List.any_eq_true]
  constructor
  · rintro ⟨t, h1, h2⟩; exact ⟨t, h1, by simpa using h2⟩
  · rintro ⟨t, h1, h2⟩; exact ⟨t, h1, by simpa using h2⟩
theorem hasK_no {L : List Ta} {x : Int} (h : hasK L x = false) : ∀ t ∈ L, t.k ≠ x := fun t ht e => by
  have := hasK_mem.2 ⟨t, ht, e⟩
  rw [h] at this; cases this
def KeysNo (L : List Ta) (x : Int) (k : Nat) : Prop := ∀ p, p < k → ¬ (L.getD p ta0).k = x
theorem idxK_eq {L : List Ta} {x : Int} {k : Nat} (hk : k < L.length) (h : KeysNo L x k) (he : (L.getD k ta0).k = x) : hasK L x = true ∧ idxK L x = k := by
  have e1 : ∀ i (hi : i < L.length), L.getD i ta0 = L[i] := fun i hi => by simp [List.getD, hi]
  have hh : hasK L x = true := hasK_mem.2 ⟨L[k], List.getElem_mem hk, by rw [← e1 k hk]; exact he⟩
  refine ⟨hh, ?_⟩
  obtain ⟨h1, h2⟩ := idxK_lt hh
  rcases Nat.lt_trichotomy (idxK L x) k with h3 | h3 | h3
  · exact absurd h2 (h _ h3)
  · exact h3
  · exfalso
    have := List.not_of_lt_findIdx (p := fun t : Ta => t.k == x) (xs := L) h3
    rw [e1 k hk] at he
    simp [he] at this
theorem hasK_none {L : List Ta} {x : Int} (h : KeysNo L x L.length) : hasK L x = false := by
  cases hc : hasK L x
  · rfl
  · obtain ⟨t, ht, he⟩ := hasK_mem.1 hc
    obtain ⟨i, hi, rfl⟩ := List.mem_iff_getElem.1 ht
    have := h i hi
    rw [show L.getD i ta0 = L[i] from by simp [List.getD, hi]] at this
    exact absurd he this
def lessR (a b : Ta) : Bool := decide (a.n < b.n) || (a.n == b.n && decide (a.k < b.k))
def firstTo (L : List Ta) : Nat → Nat
  | 0 => 0
  | i + 1 => if lessR (L.getD i ta0) (L.getD (firstTo L i) ta0) = true then i else firstTo L i
def firstR (L : List Ta) : Nat := firstTo L L.length
theorem firstTo_lt {L : List Ta} (h : 0 < L.length) : ∀ i, i ≤ L.length → firstTo L i < L.length
  | 0, _ => h
  | i + 1, hi => by
    unfold firstTo
    split
    · omega
    · exact firstTo_lt h i (by omega)
theorem lessR_n {a b : Ta} (h : lessR a b = true) : a.n ≤ b.n := by
  unfold lessR at h
  rw [Bool.or_eq_true, Bool.and_eq_true, decide_eq_true_eq, beq_iff_eq, decide_eq_true_eq] at h
  omega
theorem lessR_not {a b : Ta} (h : lessR a b = false) : b.n ≤ a.n := by
  unfold lessR at h
  rw [Bool.or_eq_false_iff, decide_eq_false_iff_not] at h
  omega
theorem firstTo_min (L : List Ta) : ∀ i j, j < i → (L.getD (firstTo L i) ta0).n ≤ (L.getD j ta0).n
  | 0, j, h => by omega
  | i + 1, j, h => by
    unfold firstTo
    split
    · next hl =>
      by_cases e : j = i
      · subst e; exact Int.le_refl _
      · have := firstTo_min L i j (by omega)
        have := lessR_n hl
        omega
    · next hl =>
      by_cases e : j = i
      · subst e; exact lessR_not (by simpa using hl)
      · exact firstTo_min L i j (by omega)
theorem firstR_min {L : List Ta} : ∀ t ∈ L, (L.getD (firstR L) ta0).n ≤ t.n := fun t ht => by
  obtain ⟨i, hi, rfl⟩ := List.mem_iff_getElem.1 ht
  have := firstTo_min L L.length i hi
  rwa [show L.getD i ta0 = L[i] from by simp [List.getD, hi]] at this
def incT (t : Ta) : Ta := { t with n := t.n + 1 }
def newT (t : Ta) (x : Int) : Ta := ⟨x, t.n + 1, t.n⟩
def tally (m : Nat) (L : List Ta) (x : Int) : List Ta :=
  if hasK L x = true then L.set (idxK L x) (incT (L.getD (idxK L x) ta0))
  else if L.length < m then L ++ [⟨x, 1, 0⟩]
  else L.set (firstR L) (newT (L.getD (firstR L) ta0) x)
def countH (H : Hv) (x : Int) : Hv := { H with s := H.s + 1, L := tally H.m H.L x }
def addTo (H : Hv) (l : List Int) : Nat → Hv
  | 0 => H
  | i + 1 => countH (addTo H l i) (l.getD i 0)
def loH (L : List Ta) (x : Int) : Int := if hasK L x = true then (L.getD (idxK L x) ta0).n - (L.getD (idxK L x) ta0).o else 0
def hiH (m : Nat) (L : List Ta) (x : Int) : Int := if hasK L x = true then (L.getD (idxK L x) ta0).n else if L.length < m then 0 else (L.getD (firstR L) ta0).n
theorem getD_memT {L : List Ta} {i : Nat} (h : i < L.length) : L.getD i ta0 ∈ L := by
  rw [show L.getD i ta0 = L[i] from by simp [List.getD, h]]; exact List.getElem_mem h
theorem mem_setT {L : List Ta} {i : Nat} {x y : Ta} (h : y ∈ L.set i x) : y = x ∨ y ∈ L := by
  rcases List.mem_or_eq_of_mem_set h with h | h
  · exact .inr h
  · exact .inl h
/-- What holds of any, K keys behind its beginning. -/
structure HOk (H : Hv) (K : Nat) : Prop where
  m0 : 1 ≤ H.m
  m1 : H.m ≤ 64
  len : H.L.length ≤ H.m
  sK : H.s ≤ K
  t : ∀ t ∈ H.L, 0 ≤ t.o ∧ t.o < t.n ∧ t.n ≤ H.s
  nd : (H.L.map Ta.k).Nodup
theorem HOk.more {H : Hv} {K K' : Nat} (h : HOk H K) (hK : K ≤ K') : HOk H K' := ⟨h.m0, h.m1, h.len, by have := h.sK; omega, h.t, h.nd⟩
theorem map_set_same {L : List Ta} {i : Nat} {v : Ta} (hi : i < L.length) (h : v.k = (L.getD i ta0).k) : (L.set i v).map Ta.k = L.map Ta.k := by
  rw [List.map_set, h, show L.getD i ta0 = L[i] from by simp [List.getD, hi]]
  have : (L.map Ta.k)[i]'(by simpa using hi) = L[i].k := by simp
  rw [← this, List.set_getElem_self]
theorem nodup_set {l : List Int} {i : Nat} {x : Int} (h : l.Nodup) (hx : x ∉ l) : (l.set i x).Nodup := by
  rw [List.nodup_iff_pairwise_ne, List.pairwise_iff_getElem] at h ⊢
  intro a b ha hb hab
  simp only [List.length_set] at ha hb
  rw [List.getElem_set, List.getElem_set]
  split
  · split
    · omega
    · intro e; exact hx (e ▸ List.getElem_mem hb)
  · split
    · intro e; exact hx (e ▸ List.getElem_mem ha)
    · exact h a b ha hb hab
theorem countH_ok {H : Hv} {K : Nat} {x : Int} (h : HOk H K) : HOk (countH H x) (K + 1) := by
  have hs := h.sK
  unfold countH tally
  by_cases hh : hasK H.L x = true
  · rw [if_pos hh]
    obtain ⟨h1, h2⟩ := idxK_lt hh
    refine ⟨h.m0, h.m1, by simp; exact h.len, by show H.s + 1 ≤ _; omega, fun t ht => ?_, ?_⟩
    · show 0 ≤ t.o ∧ t.o < t.n ∧ t.n ≤ ((H.s + 1 : Nat) : Int)
      rcases mem_setT ht with rfl | ht
      · have := h.t _ (getD_memT h1); unfold incT; simp only; omega
      · have := h.t t ht; omega
    · show ((H.L.set _ _).map Ta.k).Nodup
      rw [map_set_same h1 (by rfl)]; exact h.nd
  · rw [if_neg hh]
    have hno := hasK_no (by simpa using hh)
    have hnot : x ∉ H.L.map Ta.k := fun hm => by obtain ⟨t, ht, e⟩ := List.mem_map.1 hm; exact hno t ht e
    by_cases hl : H.L.length < H.m
    · rw [if_pos hl]
      refine ⟨h.m0, h.m1, by simp; omega, by show H.s + 1 ≤ _; omega, fun t ht => ?_, ?_⟩
      · show 0 ≤ t.o ∧ t.o < t.n ∧ t.n ≤ ((H.s + 1 : Nat) : Int)
        rcases List.mem_append.1 ht with ht | ht
        · have := h.t t ht; omega
        · rw [List.mem_singleton.1 ht]; simp only; omega
      · show ((H.L ++ [_]).map Ta.k).Nodup
        rw [List.map_append, List.nodup_append]
        refine ⟨h.nd, by simp, fun a ha b hb e => ?_⟩
        simp at hb
        exact hnot (by rw [← hb, ← e]; exact ha)
    · rw [if_neg hl]
      have hp : 0 < H.L.length := by have := h.m0; omega
      have hf := firstTo_lt hp H.L.length (Nat.le_refl _)
      refine ⟨h.m0, h.m1, by simp; exact h.len, by show H.s + 1 ≤ _; omega, fun t ht => ?_, ?_⟩
      · show 0 ≤ t.o ∧ t.o < t.n ∧ t.n ≤ ((H.s + 1 : Nat) : Int)
        rcases mem_setT ht with rfl | ht
        · have := h.t _ (getD_memT hf); unfold newT firstR; simp only; omega
        · have := h.t t ht; omega
      · show ((H.L.set _ _).map Ta.k).Nodup
        rw [List.map_set]
        exact nodup_set h.nd hnot
theorem addTo_ok {H : Hv} {K : Nat} {l : List Int} (h : HOk H K) : ∀ i, HOk (addTo H l i) (K + i)
  | 0 => h
  | i + 1 => countH_ok (addTo_ok h i)
theorem addTo_s (H : Hv) (l : List Int) : ∀ i, (addTo H l i).s = H.s + i
  | 0 => rfl
  | i + 1 => by show (addTo H l i).s + 1 = _; rw [addTo_s H l i]; omega
theorem addTo_m (H : Hv) (l : List Int) : ∀ i, (addTo H l i).m = H.m
  | 0 => rfl
  | i + 1 => by show (addTo H l i).m = _; exact addTo_m H l i
def newH (m : Nat) : Hv := ⟨m, 0, []⟩
theorem newH_ok {m : Nat} (h0 : 1 ≤ m) (h1 : m ≤ 64) : HOk (newH m) 0 := ⟨h0, h1, by simp [newH], by simp [newH], by simp [newH], by simp [newH]⟩
/-- What the tallies have to do with what came. -/
structure Str (H : Hv) (xs : List Int) : Prop where
  sm : (H.L.map Ta.n).sum = (xs.length : Int)
  bd : ∀ j, j < H.L.length → (H.L.getD j ta0).n - (H.L.getD j ta0).o ≤ cntX xs (H.L.getD j ta0).k ∧ (cntX xs (H.L.getD j ta0).k : Int) ≤ (H.L.getD j ta0).n
  nx : ∀ x, hasK H.L x = false → (∀ j, j < H.L.length → (cntX xs x : Int) ≤ (H.L.getD j ta0).n) ∧ (H.L.length < H.m → cntX xs x = 0)
  ov : ∀ j, j < H.L.length → (∀ u, u < H.L.length → (H.L.getD j ta0).o ≤ (H.L.getD u ta0).n) ∧ (H.L.length < H.m → (H.L.getD j ta0).o = 0)
theorem sum_set (L : List Ta) : ∀ (i : Nat) (v : Ta), i < L.length → ((L.set i v).map Ta.n).sum = (L.map Ta.n).sum - (L.getD i ta0).n + v.n := by
  induction L with
  | nil => intro i v h; simp at h
  | cons t L ih =>
    intro i v h
    cases i with
    | zero => simp [List.getD]; omega
    | succ i =>
      have := ih i v (by simpa using h)
      rw [List.set_cons_succ, List.map_cons, List.map_cons, List.sum_cons, List.sum_cons, this]
      have e : (t :: L).getD (i + 1) ta0 = L.getD i ta0 := by simp [List.getD]
      rw [e]; omega
theorem getD_setT (l : List Ta) (i j : Nat) (v : Ta) : (l.set i v).getD j ta0 = if i = j ∧ j < l.length then v else l.getD j ta0 := by
  simp only [List.getD_eq_getElem?_getD, List.getElem?_set]
  by_cases h : i = j
  · subst h
    by_cases h2 : i < l.length
    · simp [h2]
    · simp [h2]
  · simp [h]
theorem getD_snocT (l : List Ta) (j : Nat) (v : Ta) (h : j < l.length + 1) : (l ++ [v]).getD j ta0 = if j = l.length then v else l.getD j ta0 := by
  simp only [List.getD_eq_getElem?_getD]
  by_cases e : j = l.length
  · subst e; simp
  · rw [List.getElem?_append_left (by omega), if_neg e]
theorem hasK_not {L : List Ta} {x : Int} (h : hasK L x = false) : ∀ j, j < L.length → (L.getD j ta0).k ≠ x := fun j hj => hasK_no h _ (getD_memT hj)
theorem keys_ne {L : List Ta} (h : (L.map Ta.k).Nodup) {i j : Nat} (hi : i < L.length) (hj : j < L.length) (hij : i ≠ j) : (L.getD i ta0).k ≠ (L.getD j ta0).k := by
  rw [List.nodup_iff_pairwise_ne, List.pairwise_iff_getElem] at h
  rw [show L.getD i ta0 = L[i] from by simp [List.getD, hi], show L.getD j ta0 = L[j] from by simp [List.getD, hj]]
  rcases Nat.lt_or_gt_of_ne hij with h1 | h1
  · have := h i j (by simpa using hi) (by simpa using hj) h1
    simpa using this
  · have := h j i (by simpa using hj) (by simpa using hi) h1
    simp only [List.getElem_map] at this
    exact fun e => this e.symm
theorem hasK_of {L : List Ta} {x : Int} (h : ∀ j, j < L.length → (L.getD j ta0).k ≠ x) : hasK L x = false := hasK_none (fun p hp => h p hp)
theorem str_new (m : Nat) : Str (newH m) [] := ⟨by simp [newH], by simp [newH], fun x _ => ⟨by simp [newH], fun _ => by simp [cntX]⟩, by simp [newH]⟩
theorem str_count {H : Hv} {K : Nat} {xs : List Int} {x : Int} (hok : HOk H K) (h : Str H xs) : Str (countH H x) (xs ++ [x]) := by
  obtain ⟨sm, bd, nx, ov⟩ := h
  have hlen : ((xs ++ [x]).length : Int) = (xs.length : Int) + 1 := by simp
  unfold countH tally
  by_cases hh : hasK H.L x = true
  · rw [if_pos hh]
    obtain ⟨h1, h2⟩ := idxK_lt hh
    obtain ⟨i, hi⟩ : ∃ i, idxK H.L x = i := ⟨_, rfl⟩
    rw [hi] at h1 h2 ⊢
    have hll : (H.L.set i (incT (H.L.getD i ta0))).length = H.L.length := by simp
    refine ⟨?_, fun j hj => ?_, fun y hy => ?_, fun j hj => ?_⟩
    · show ((H.L.set _ _).map Ta.n).sum = _
      rw [sum_set _ _ _ h1, sm, hlen]
      unfold incT; simp only; omega
    · simp only at hj ⊢
      rw [hll] at hj
      rw [getD_setT]
      by_cases e : i = j
      · subst e
        rw [if_pos ⟨rfl, hj⟩]
        have := bd i hj
        unfold incT; simp only
        rw [h2, cntX_snoc, if_pos rfl]
        rw [h2] at this
        omega
      · rw [if_neg (fun h => e h.1), cntX_snoc, if_neg (fun h => keys_ne hok.nd h1 hj e (by rw [h2, h]))]
        have := bd j hj
        omega
    · simp only at hy ⊢
      have hn := hasK_not hy
      rw [hll] at hn ⊢
      have hyx : ¬ x = y := fun e => by
        have := hn i h1
        rw [getD_setT, if_pos ⟨rfl, h1⟩] at this
        exact this (by unfold incT; simp only; rw [h2, e])
      have hy0 : hasK H.L y = false := hasK_of (fun j hj e => by
        by_cases e2 : i = j
        · subst e2; exact hyx (by rw [← h2, e])
        · have := hn j hj
          rw [getD_setT, if_neg (fun h => e2 h.1)] at this
          exact this e)
      obtain ⟨n1, n2⟩ := nx y hy0
      rw [cntX_snoc, if_neg hyx]
      refine ⟨fun j hj => ?_, fun hl => by have := n2 hl; omega⟩
      rw [getD_setT]
      have := n1 j hj
      split
      · next e => rw [← e.1] at this; unfold incT; simp only; omega
      · omega
    · simp only at hj ⊢
      rw [hll] at hj ⊢
      obtain ⟨o1, o2⟩ := ov j hj
      have e0 : ((H.L.set i (incT (H.L.getD i ta0))).getD j ta0).o = (H.L.getD j ta0).o := by
        rw [getD_setT]; split
        · next e => rw [← e.1]; rfl
        · rfl
      rw [e0]
      refine ⟨fun u hu => ?_, o2⟩
      rw [getD_setT]
      have := o1 u hu
      split
      · next e => rw [← e.1] at this; unfold incT; simp only; omega
      · omega
  · rw [if_neg hh]
    have hh : hasK H.L x = false := by simpa using hh
    have hno := hasK_not hh
    obtain ⟨x1, x2⟩ := nx x hh
    by_cases hl : H.L.length < H.m
    · rw [if_pos hl]
      have hll : (H.L ++ [(⟨x, 1, 0⟩ : Ta)]).length = H.L.length + 1 := by simp
      have hx0 := x2 hl
      refine ⟨?_, fun j hj => ?_, fun y hy => ?_, fun j hj => ?_⟩
      · show ((H.L ++ [_]).map Ta.n).sum = _
        rw [List.map_append, List.sum_append, sm, hlen]; simp
      · simp only at hj ⊢
        rw [hll] at hj
        rw [getD_snocT _ _ _ hj]
        by_cases e : j = H.L.length
        · rw [if_pos e]
          simp only
          rw [cntX_snoc, if_pos rfl]; omega
        · rw [if_neg e, cntX_snoc, if_neg (fun h => hno j (by omega) h.symm)]
          have := bd j (by omega)
          omega
      · simp only at hy ⊢
        have hn := hasK_not hy
        rw [hll] at hn ⊢
        have hyx : ¬ x = y := fun e => by
          have := hn H.L.length (by omega)
          rw [getD_snocT _ _ _ (by omega), if_pos rfl] at this
          exact this e
        have hy0 : hasK H.L y = false := hasK_of (fun j hj e => by
          have := hn j (by omega)
          rw [getD_snocT _ _ _ (by omega), if_neg (by omega)] at this
          exact this e)
        have h0 := (nx y hy0).2 hl
        rw [cntX_snoc, if_neg hyx, h0]
        refine ⟨fun j hj => ?_, fun _ => rfl⟩
        rw [getD_snocT _ _ _ hj]
        split
        · simp
        · have := hok.t _ (getD_memT (show j < H.L.length by omega)); omega
      · simp only at hj ⊢
        rw [hll] at hj ⊢
        have e0 : ((H.L ++ [(⟨x, 1, 0⟩ : Ta)]).getD j ta0).o = 0 := by
          rw [getD_snocT _ _ _ hj]; split
          · rfl
          · exact (ov j (by omega)).2 hl
        rw [e0]
        refine ⟨fun u hu => ?_, fun _ => rfl⟩
        rw [getD_snocT _ _ _ hu]
        split
        · simp
        · have := hok.t _ (getD_memT (show u < H.L.length by omega)); omega
    · rw [if_neg hl]
      have hp : 0 < H.L.length := by have := hok.m0; omega
      have h1 := firstTo_lt hp H.L.length (Nat.le_refl _)
      obtain ⟨i, hi⟩ : ∃ i, firstR H.L = i := ⟨_, rfl⟩
      have hmin : ∀ j, j < H.L.length → (H.L.getD i ta0).n ≤ (H.L.getD j ta0).n := fun j hj => by rw [← hi]; exact firstR_min _ (getD_memT hj)
      have h1 : i < H.L.length := by rw [← hi]; exact h1
      rw [hi]
      have hll : (H.L.set i (newT (H.L.getD i ta0) x)).length = H.L.length := by simp
      have hpos := hok.t _ (getD_memT h1)
      refine ⟨?_, fun j hj => ?_, fun y hy => ?_, fun j hj => ?_⟩
      · show ((H.L.set _ _).map Ta.n).sum = _
        rw [sum_set _ _ _ h1, sm, hlen]
        unfold newT; simp only; omega
      · simp only at hj ⊢
        rw [hll] at hj
        rw [getD_setT]
        by_cases e : i = j
        · subst e
          rw [if_pos ⟨rfl, hj⟩]
          have := x1 i hj
          unfold newT; simp only
          rw [cntX_snoc, if_pos rfl]
          omega
        · rw [if_neg (fun h => e h.1), cntX_snoc, if_neg (fun h => hno j hj h.symm)]
          have := bd j hj
          omega
      · simp only at hy ⊢
        have hn := hasK_not hy
        rw [hll] at hn ⊢
        have hyx : ¬ x = y := fun e => by
          have := hn i h1
          rw [getD_setT, if_pos ⟨rfl, h1⟩] at this
          exact this e
        rw [cntX_snoc, if_neg hyx]
        refine ⟨fun j hj => ?_, fun h => absurd h hl⟩
        have hle : (cntX xs y : Int) ≤ (H.L.getD j ta0).n ∧ (cntX xs y : Int) ≤ (H.L.getD i ta0).n := by
          by_cases e : (H.L.getD i ta0).k = y
          · have h3 := (bd i h1).2
            rw [e] at h3
            have := hmin j hj
            omega
          · have hy0 : hasK H.L y = false := hasK_of (fun u hu e3 => by
              by_cases e2 : i = u
              · subst e2; exact e e3
              · have := hn u hu
                rw [getD_setT, if_neg (fun h => e2 h.1)] at this
                exact this e3)
            exact ⟨(nx y hy0).1 j hj, (nx y hy0).1 i h1⟩
        rw [getD_setT]
        split
        · unfold newT; simp only; omega
        · omega
      · simp only at hj ⊢
        rw [hll] at hj ⊢
        refine ⟨fun u hu => ?_, fun h => absurd h hl⟩
        have a1 := (ov j hj).1
        have a2 := hmin u hu
        rw [getD_setT, getD_setT]
        split
        · split
          · unfold newT; simp only; omega
          · unfold newT; simp only; omega
        · split
          · unfold newT; simp only; have := a1 i h1; omega
          · exact a1 u hu
theorem take_snocI (l : List Int) {i : Nat} (h : i < l.length) : l.take (i + 1) = l.take i ++ [l.getD i 0] := take_get l 0 i h
theorem str_add {H : Hv} {K : Nat} {xs l : List Int} (hok : HOk H K) (h : Str H xs) : ∀ i, i ≤ l.length → Str (addTo H l i) (xs ++ l.take i)
  | 0, _ => by simpa [addTo] using h
  | i + 1, hi => by
    have := str_count (x := l.getD i 0) (addTo_ok (l := l) hok i) (str_add hok h i (by omega))
    rw [List.append_assoc, ← take_snocI l (by omega)] at this
    exact this
end Go.Proofs.Ythghnpopcnnidaa
