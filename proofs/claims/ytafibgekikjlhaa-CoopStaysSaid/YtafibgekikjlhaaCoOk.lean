/- What holds of any coop: plain mathematics. -/
import Derived.Test.YtafibgekikjlhaaCoMath
namespace Go.Proofs.Ytafibgekikjlhaa
open Go.RowKit Vm As
set_option linter.unusedVariables false
set_option linter.unusedSimpArgs false

/-- Ahead of a generation. -/
structure BOk (C : Co) (K : Nat) : Prop where
  h0 : 1 ≤ C.H.length
  h1 : C.H.length ≤ 16
  wl : C.W.length = C.H.length
  ml : C.M.length ≤ 8
  ms : C.M.Pairwise (· < ·)
  mr : ∀ m ∈ C.M, 1 ≤ m ∧ m ≤ 1099511627776
  g0 : 0 ≤ C.g
  g1 : C.g ≤ K
  hz : ∀ x ∈ C.H, x = 0 ∨ x ∈ C.M
  wr : ∀ x ∈ C.W, 0 ≤ x ∧ x ≤ 1099511627776
structure COk (C : Co) (K : Nat) : Prop where
  b : BOk C K
  wz : ∀ x ∈ C.W, x = 0 ∨ x ∈ C.M
  fw : FairOf C.H.length C.M C.W
  full : C.M ≠ [] → ∀ x ∈ C.H, x ∈ C.M
theorem BOk.more {C : Co} {K K' : Nat} (h : BOk C K) (hK : K ≤ K') : BOk C K' := by
  obtain ⟨h1, h2, h3, h4, h5, h6, h7, h8, h9, h10⟩ := h
  exact ⟨h1, h2, h3, h4, h5, h6, h7, by omega, h9, h10⟩
theorem COk.more {C : Co} {K K' : Nat} (h : COk C K) (hK : K ≤ K') : COk C K' := ⟨h.b.more hK, h.wz, h.fw, h.full⟩
theorem memL_self {M : List Int} (hs : M.Pairwise (· < ·)) (hp : ∀ m ∈ M, 0 < m) : memL M = M :=
  memIs_unique (memL_is M) ⟨hs, fun x => ⟨fun h => ⟨h, hp x h⟩, fun h => h.1⟩⟩
theorem giveL_mem {H W : List Int} {x : Int} (h : x ∈ giveL H W) : (x ∈ H ∧ x ≠ 0) ∨ x ∈ W := by
  unfold giveL at h
  rw [List.mem_iff_getElem] at h
  obtain ⟨i, hi, rfl⟩ := h
  rw [List.getElem_zipWith]
  rw [List.length_zipWith] at hi
  split
  · exact .inr (List.getElem_mem _)
  · next hne => exact .inl ⟨List.getElem_mem _, hne⟩
theorem wf41 {x : Int} (h0 : 0 ≤ x) (h1 : x ≤ 1099511627776) : (Lit.int .i64 x).wf = true := by
  simp only [Lit.wf, Bool.and_eq_true, decide_eq_true_eq]
  exact ⟨by show (-9223372036854775808 : Int) ≤ _; omega, by show _ ≤ (9223372036854775807 : Int); omega⟩
theorem BOk.hr {C : Co} {K : Nat} (h : BOk C K) : ∀ x ∈ C.H, 0 ≤ x ∧ x ≤ 1099511627776 := fun x hx => by
  rcases h.hz x hx with rfl | hm
  · omega
  · have := h.mr x hm; omega
theorem BOk.wfO {C : Co} {K : Nat} (h : BOk C K) : ∀ x ∈ giveL C.H C.W, (Lit.int .i64 x).wf = true := fun x hx => by
  rcases giveL_mem hx with ⟨h1, _⟩ | h1
  · have := h.hr x h1; exact wf41 this.1 this.2
  · have := h.wr x h1; exact wf41 this.1 this.2
theorem BOk.wfM {C : Co} {K : Nat} (h : BOk C K) : ∀ x ∈ C.M, (Lit.int .i64 x).wf = true := fun x hx => by
  have := h.mr x hx; exact wf41 (by omega) this.2
theorem BOk.mp {C : Co} {K : Nat} (h : BOk C K) : ∀ x ∈ C.M, 0 < x := fun x hx => by have := h.mr x hx; omega
theorem BOk.fair {C : Co} {K : Nat} (h : BOk C K) : FairOf C.H.length C.M (wantF C) := by
  have hok : okP (C.H.length : Int) = true := by have := h.h0; have := h.h1; unfold okP; simp; omega
  have := fairOf_sticky (C.H.length : Int) C.M (giveL C.H C.W) hok
  rw [memL_self h.ms h.mp] at this
  exact this
theorem FairOf.mem {M : Nat} {m L : List Int} (h : FairOf M m L) : ∀ x ∈ L, x = 0 ∨ x ∈ m := fun x hx => by
  rcases h.2 with ⟨_, e⟩ | ⟨_, f⟩
  · rw [e] at hx; exact .inl (List.eq_of_mem_replicate hx)
  · exact .inr (f.2 x hx)
theorem FairOf.all {M : Nat} {m L : List Int} (h : FairOf M m L) (hne : m ≠ []) : ∀ x ∈ L, x ∈ m := fun x hx => by
  rcases h.2 with ⟨e, _⟩ | ⟨_, f⟩
  · exact absurd e hne
  · exact f.2 x hx
theorem begC_ok {C : Co} {K : Nat} (h : BOk C K) : COk (begC C) (K + 1) := by
  have hl := wantF_len h.h0 (by have := h.h1; omega)
  have hf := h.fair
  have hgl := giveL_len C.H (wantF C) hl.symm
  refine ⟨⟨?_, ?_, ?_, h.ml, h.ms, h.mr, ?_, ?_, ?_, ?_⟩, hf.mem, ?_, ?_⟩
  · show 1 ≤ (giveL C.H (wantF C)).length; rw [hgl]; exact h.h0
  · show (giveL C.H (wantF C)).length ≤ 16; rw [hgl]; exact h.h1
  · show (wantF C).length = (giveL C.H (wantF C)).length; rw [hgl]; exact hl
  · show 0 ≤ C.g + 1; have := h.g0; omega
  · show C.g + 1 ≤ ((K + 1 : Nat) : Int); have := h.g1; omega
  · intro x hx
    rcases giveL_mem hx with ⟨h1, _⟩ | h1
    · exact h.hz x h1
    · exact hf.mem x h1
  · intro x hx
    rcases hf.mem x hx with rfl | hm
    · omega
    · have := h.mr x hm; omega
  · show FairOf (giveL C.H (wantF C)).length C.M (wantF C); rw [hgl]; exact hf
  · intro hne x hx
    rcases giveL_mem hx with ⟨h1, h2⟩ | h1
    · exact (h.hz x h1).resolve_left h2
    · exact hf.all hne x h1
def newC (parts : Nat) : Co := ⟨0, [], List.replicate parts 0, List.replicate parts 0⟩
theorem newC_ok {parts : Nat} (h0 : 1 ≤ parts) (h1 : parts ≤ 16) : COk (newC parts) 0 := by
  have hr : ∀ x ∈ List.replicate parts (0 : Int), x = 0 := fun x hx => List.eq_of_mem_replicate hx
  refine ⟨⟨by simp [newC]; omega, by simp [newC]; omega, by simp [newC], by simp [newC], by simp [newC], by simp [newC], by simp [newC], by simp [newC], fun x hx => .inl (hr x hx), fun x hx => by rw [hr x hx]; omega⟩, fun x hx => .inl (hr x hx), ⟨by simp [newC], .inl ⟨rfl, by simp [newC]⟩⟩, fun h => absurd rfl h⟩
theorem getD_mem0 {l : List Int} {i : Nat} (h : i < l.length) : l.getD i 0 ∈ l := by
  rw [show l.getD i 0 = l[i] from by simp [List.getD, h]]; exact List.getElem_mem h
/-- Nothing is wrong up to the i-th one. -/
theorem joinTo_zero {C : Co} {l : List Int} : ∀ i, i ≤ l.length → joinTo C l i = 0 → ∀ p, p < i → (1 ≤ l.getD p 0 ∧ l.getD p 0 ≤ 1099511627776) ∧ l.getD p 0 ∉ C.M ∧ l.getD p 0 ∉ l.take p := by
  intro i
  induction i with
  | zero => intro _ _ p hp; omega
  | succ i ih =>
    intro hi h p hp
    unfold joinTo at h
    split at h
    · exact absurd h (by assumption)
    · next h0 =>
      have h0 : joinTo C l i = 0 := Classical.not_not.1 h0
      rcases Nat.lt_or_ge p i with h1 | h1
      · exact ih (by omega) h0 p h1
      · obtain rfl : p = i := by omega
        split at h
        · omega
        · next hb =>
          split at h
          · omega
          · next hc =>
            refine ⟨?_, ?_, ?_⟩
            · unfold joinTo.badM' at hb; clear hc ih; generalize l.getD p 0 = v at *; simp at hb; omega
            · intro hm; exact hc (.inl (List.contains_iff_mem.2 hm))
            · intro hm; exact hc (.inr (List.contains_iff_mem.2 hm))
theorem nodup_of_take {l : List Int} (h : ∀ p, p < l.length → l.getD p 0 ∉ l.take p) : l.Nodup := by
  rw [List.nodup_iff_pairwise_ne, List.pairwise_iff_getElem]
  intro i j hi hj hij he
  refine h j hj ?_
  rw [show l.getD j 0 = l[j] from by simp [List.getD, hj], ← he]
  exact List.mem_take_iff_getElem.2 ⟨i, by omega, rfl⟩
theorem sortL_mem {l : List Int} {x : Int} : x ∈ sortL l ↔ x ∈ l := by unfold sortL; exact List.mem_mergeSort
theorem sortL_len (l : List Int) : (sortL l).length = l.length := List.length_mergeSort _
theorem sortL_asc {l : List Int} (h : l.Nodup) : (sortL l).Pairwise (· < ·) := by
  have h1 : (sortL l).Pairwise (fun x y => decide (x ≤ y) = true) := List.pairwise_mergeSort (fun a b c h1 h2 => by simp at *; omega) (fun a b => by simp; omega) l
  have h2 : (sortL l).Nodup := (List.mergeSort_perm l _).nodup_iff.2 h
  rw [List.nodup_iff_pairwise_ne] at h2
  exact (h1.and h2).imp (fun ⟨a, b⟩ => by simp at a; omega)
structure JoinOk (C : Co) (l : List Int) : Prop where
  l0 : 0 < l.length
  lr : ∀ x ∈ l, 1 ≤ x ∧ x ≤ 1099511627776
  ln : ∀ x ∈ l, x ∉ C.M
  nd : l.Nodup
  ml : C.M.length + l.length ≤ 8
theorem joinOk {C : Co} {l : List Int} (h : joinE C l = 0) : JoinOk C l := by
  unfold joinE at h
  split at h
  · omega
  · next h0 =>
    split at h
    · next h1 => exact absurd h h1
    · next h1 =>
      have h1 : joinTo C l l.length = 0 := Classical.not_not.1 h1
      split at h
      · omega
      · next h2 =>
        have key := joinTo_zero l.length (Nat.le_refl _) h1
        refine ⟨by omega, fun x hx => ?_, fun x hx => ?_, nodup_of_take (fun p hp => (key p hp).2.2), by omega⟩
        · obtain ⟨i, hi, rfl⟩ := List.mem_iff_getElem.1 hx
          have := (key i hi).1
          rwa [show l.getD i 0 = l[i] from by simp [List.getD, hi]] at this
        · obtain ⟨i, hi, rfl⟩ := List.mem_iff_getElem.1 hx
          have := (key i hi).2.1
          rwa [show l.getD i 0 = l[i] from by simp [List.getD, hi]] at this
def addM (C : Co) (l : List Int) : Co := { C with M := sortL (C.M ++ l) }
theorem addM_ok {C : Co} {K : Nat} {l : List Int} (h : BOk C K) (hj : JoinOk C l) : BOk (addM C l) K := by
  have hmem : ∀ x, x ∈ sortL (C.M ++ l) ↔ x ∈ C.M ∨ x ∈ l := fun x => by rw [sortL_mem, List.mem_append]
  refine ⟨h.h0, h.h1, h.wl, ?_, ?_, ?_, h.g0, h.g1, ?_, h.wr⟩
  · show (sortL (C.M ++ l)).length ≤ 8; rw [sortL_len, List.length_append]; exact hj.ml
  · refine sortL_asc (List.nodup_append.2 ⟨h.ms.imp (fun h => by omega), hj.nd, fun a ha b hb e => hj.ln b hb (e ▸ ha)⟩)
  · intro m hm
    rcases (hmem m).1 hm with h1 | h1
    · exact h.mr m h1
    · exact hj.lr m h1
  · intro x hx
    rcases h.hz x hx with h1 | h1
    · exact .inl h1
    · exact .inr ((hmem x).2 (.inl h1))
theorem joinC_ok {C : Co} {K : Nat} {l : List Int} (h : COk C K) : COk (joinC C l) (K + 1) := by
  unfold joinC
  split
  · next he => exact begC_ok (addM_ok h.b (joinOk he))
  · exact h.more (by omega)
def cutM (C : Co) (m : Int) : Co := { C with M := C.M.filter (fun x => !(x == m)), H := dropL C.H m }
theorem cutM_ok {C : Co} {K : Nat} {m : Int} (h : BOk C K) : BOk (cutM C m) K := by
  have hl : (dropL C.H m).length = C.H.length := by simp [dropL]
  refine ⟨?_, ?_, ?_, ?_, ?_, ?_, h.g0, h.g1, ?_, h.wr⟩
  · show 1 ≤ (dropL C.H m).length; rw [hl]; exact h.h0
  · show (dropL C.H m).length ≤ 16; rw [hl]; exact h.h1
  · show C.W.length = (dropL C.H m).length; rw [hl]; exact h.wl
  · exact Nat.le_trans (List.length_filter_le _ _) h.ml
  · exact h.ms.filter _
  · exact fun x hx => h.mr x (List.mem_filter.1 hx).1
  · intro x hx
    obtain ⟨y, hy, rfl⟩ := List.mem_map.1 hx
    by_cases e : y = m
    · rw [if_pos e]; exact .inl rfl
    · rw [if_neg e]
      rcases h.hz y hy with h1 | h1
      · exact .inl h1
      · exact .inr (List.mem_filter.2 ⟨h1, by simpa using e⟩)
theorem leaveC_ok {C : Co} {K : Nat} {m : Int} (h : COk C K) : COk (leaveC C m) (K + 1) := by
  unfold leaveC
  split
  · exact begC_ok (C := cutM C m) (cutM_ok h.b)
  · exact h.more (by omega)
theorem doneE_zero {C : Co} {m p : Int} (h : doneE C m p = 0) : C.M.contains m = true ∧ (0 ≤ p ∧ p < (C.H.length : Int)) ∧ surp C m p.toNat = true := by
  unfold doneE at h
  split at h
  · split at h
    · split at h
      · exact ⟨by assumption, by assumption, by assumption⟩
      · omega
    · omega
  · omega
theorem doneC_ok {C : Co} {K : Nat} {m p : Int} (h : COk C K) : COk (doneC C m p) K := by
  unfold doneC
  split
  · next he =>
    obtain ⟨h1, h2, h3⟩ := doneE_zero he
    have hp : p.toNat < C.W.length := by have := h.b.wl; omega
    have hv := getD_mem0 hp
    have hne : C.M ≠ [] := fun e => by rw [e] at h1; simp at h1
    have hl : (C.H.set p.toNat (C.W.getD p.toNat 0)).length = C.H.length := by simp
    have key : ∀ x ∈ C.H.set p.toNat (C.W.getD p.toNat 0), x ∈ C.M := fun x hx => by
      rcases mem_set hx with rfl | hx
      · exact h.fw.all hne _ hv
      · exact h.full hne x hx
    refine ⟨⟨?_, ?_, ?_, h.b.ml, h.b.ms, h.b.mr, h.b.g0, h.b.g1, fun x hx => .inr (key x hx), h.b.wr⟩, h.wz, ?_, fun _ => key⟩
    · show 1 ≤ (C.H.set _ _).length; rw [hl]; exact h.b.h0
    · show (C.H.set _ _).length ≤ 16; rw [hl]; exact h.b.h1
    · show C.W.length = (C.H.set _ _).length; rw [hl]; exact h.b.wl
    · show FairOf (C.H.set _ _).length _ _; rw [hl]; exact h.fw
  · exact h
theorem revTo_len (C : Co) (m : Int) : ∀ p, (revTo C m p).length ≤ p
  | 0 => by simp [revTo]
  | p + 1 => by
    have := revTo_len C m p
    unfold revTo
    split <;> simp <;> omega
theorem revTo_mem {C : Co} {m : Int} : ∀ p (x : Int), x ∈ revTo C m p ↔ ∃ q : Nat, q < p ∧ x = (q : Int) ∧ surp C m q = true
  | 0, x => by simp [revTo]
  | p + 1, x => by
    unfold revTo
    rw [List.mem_append, revTo_mem p x]
    constructor
    · rintro (⟨q, h1, h2, h3⟩ | h)
      · exact ⟨q, by omega, h2, h3⟩
      · split at h
        · next hs => exact ⟨p, by omega, by simpa using h, hs⟩
        · cases h
    · rintro ⟨q, h1, h2, h3⟩
      rcases Nat.lt_or_ge q p with h4 | h4
      · exact .inl ⟨q, h4, h2, h3⟩
      · obtain rfl : q = p := by omega
        rw [if_pos h3]; exact .inr (by simp [h2])
theorem revTo_asc (C : Co) (m : Int) : ∀ p, (revTo C m p).Pairwise (· < ·)
  | 0 => by simp [revTo]
  | p + 1 => by
    unfold revTo
    rw [List.pairwise_append]
    refine ⟨revTo_asc C m p, ?_, fun a ha b hb => ?_⟩
    · split <;> simp
    · obtain ⟨q, h1, rfl, _⟩ := (revTo_mem p a).1 ha
      split at hb
      · simp at hb; omega
      · cases hb
end Go.Proofs.Ytafibgekikjlhaa
