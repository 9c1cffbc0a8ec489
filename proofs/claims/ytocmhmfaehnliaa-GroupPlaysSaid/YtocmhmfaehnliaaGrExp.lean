/- Who is not heard of goes: plain mathematics. -/
import Derived.Test.YtocmhmfaehnliaaGrRise
namespace Go.Proofs.Ytocmhmfaehnliaa
open Go.RowKit Vm As
set_option linter.unusedVariables false
set_option linter.unusedSimpArgs false

theorem step_gen {G : Gr} {K : Nat} (y : Gd) (hok : GOk G K) : (doesY G y).g ≤ G.g + 1 := by
  rcases stepR y hok with ⟨_, h, _⟩ | ⟨_, h, _⟩ <;> omega
theorem run_gen {G : Gr} {l : List Gd} (h : GOk G 0) : ∀ k, (runG G l k).g ≤ G.g + k
  | 0 => by show G.g ≤ _; omega
  | k + 1 => by
    have h1 := run_gen (l := l) h k
    have h2 := step_gen (aimF (l.getD k gd0) (runG G l k).L (runG G l k).g) (runG_ok (l := l) h k)
    show (doesY _ _).g ≤ _
    omega
theorem prs_len {A B : List Mb} (h : prs A = prs B) : A.length = B.length := by
  have := congrArg List.length h
  simpa [prs] using this
theorem prs_id {A B : List Mb} (h : prs A = prs B) {p : Nat} (hp : p < A.length) : (A.getD p mb0).i = (B.getD p mb0).i := by
  have hl := prs_len h
  have h1 : (prs A)[p]? = (prs B)[p]? := by rw [h]
  simp [prs, hp, show p < B.length by omega] at h1
  simp [List.getD, hp, show p < B.length by omega, h1.1]
theorem asc_idx {L : List Mb} (h : Asc L) {p : Nat} (hp : p < L.length) : hasI L (L.getD p mb0).i = true ∧ idxI L (L.getD p mb0).i = p :=
  idx_found hp (fun q hq e => by have := (asc_at h hq hp).1; omega) rfl
/-- Behind so many of the others heard of at the time t. -/
structure ExpI (G : Gr) (t0 t : Int) (jq k : Nat) (K : Nat) (H : Gr) : Prop where
  ok : GOk H K
  prs : prs H.L = prs G.L
  tt : H.t = t
  gg : H.g = G.g
  qd : (H.L.getD jq mb0).d = t0 + 12
  od : ∀ p, p < k → p ≠ jq → (H.L.getD p mb0).d = t + 12
theorem ExpI.asc {G : Gr} {t0 t : Int} {jq k K : Nat} {H : Gr} (h : ExpI G t0 t jq k K H) (ha : Asc G.L) : Asc H.L := by unfold Asc; rw [h.prs]; exact ha
theorem hear_at {H : Gr} {j p : Nat} (hp : p < H.L.length) : ((hearG H j).L.getD p mb0) = if j = p then { H.L.getD j mb0 with d := H.t + 12 } else H.L.getD p mb0 := by
  unfold hearG
  simp only
  rw [List.getD, List.getElem?_set]
  split
  · next h => subst h; simp [hp]
  · simp [List.getD]
/-- The one that is silent is heard of for the last time. -/
theorem exp_start {G : Gr} {K jq : Nat} (hok : GOk G K) (ha : Asc G.L) (hj : jq < G.L.length) : ExpI G G.t G.t jq 0 K (syncG G (G.L.getD jq mb0).i) := by
  obtain ⟨h1, h2⟩ := asc_idx ha hj
  unfold syncG
  rw [if_pos h1, h2]
  exact ⟨hearG_ok hok, prs_hear G jq, rfl, rfl, by rw [hear_at hj, if_pos rfl], fun p hp => by omega⟩
/-- Another one is heard of. -/
theorem exp_hear {G : Gr} {t0 t : Int} {jq k K : Nat} {H : Gr} (h : ExpI G t0 t jq k K H) (ha : Asc G.L) (hk : k < G.L.length) (hq : jq < G.L.length) (hkq : k ≠ jq) : ExpI G t0 t jq (k + 1) K (syncG H (G.L.getD k mb0).i) := by
  have hl := prs_len h.prs
  rw [← prs_id h.prs (by omega)]
  obtain ⟨h1, h2⟩ := asc_idx (h.asc ha) (p := k) (by omega)
  unfold syncG
  rw [if_pos h1, h2]
  refine ⟨hearG_ok h.ok, by rw [prs_hear]; exact h.prs, h.tt, h.gg, by rw [hear_at (by omega), if_neg hkq]; exact h.qd, fun p hp hpq => ?_⟩
  by_cases hpl : p < H.L.length
  · rw [hear_at hpl]
    split
    · show H.t + 12 = t + 12; rw [h.tt]
    · exact h.od p (by omega) hpq
  · omega
theorem exp_skip {G : Gr} {t0 t : Int} {jq k K : Nat} {H : Gr} (h : ExpI G t0 t jq k K H) (hkq : k = jq) : ExpI G t0 t jq (k + 1) K H :=
  ⟨h.ok, h.prs, h.tt, h.gg, h.qd, fun p hp hpq => h.od p (by omega) hpq⟩
theorem keep_one {L : List Mb} {p : Mb → Bool} {j : Nat} (hj : j < L.length) (h1 : p (L.getD j mb0) = true) (h2 : ∀ q, q < L.length → q ≠ j → p (L.getD q mb0) = false) : keepP p L = L.take j ++ L.drop (j + 1) := by
  have hs : L = L.take j ++ (L.getD j mb0 :: L.drop (j + 1)) := by
    rw [show L.getD j mb0 = L[j] from by simp [List.getD, hj], List.getElem_cons_drop, List.take_append_drop]
  have e1 : keepP p (L.take j) = L.take j := List.filter_eq_self.2 (fun m hm => by
    obtain ⟨i, hi, rfl⟩ := List.mem_iff_getElem.1 hm
    rw [List.length_take] at hi
    have := h2 i (by omega) (by omega)
    rw [show L.getD i mb0 = (L.take j)[i] from by simp [List.getD, show i < L.length by omega]] at this
    show (!p _) = true
    rw [this]; rfl)
  have e2 : keepP p (L.drop (j + 1)) = L.drop (j + 1) := List.filter_eq_self.2 (fun m hm => by
    obtain ⟨i, hi, rfl⟩ := List.mem_iff_getElem.1 hm
    rw [List.length_drop] at hi
    have := h2 (j + 1 + i) (by omega) (by omega)
    rw [show L.getD (j + 1 + i) mb0 = (L.drop (j + 1))[i] from by simp [List.getD, show j + 1 + i < L.length by omega]] at this
    show (!p _) = true
    rw [this]; rfl)
  conv => lhs; rw [hs]
  unfold keepP at *
  rw [List.filter_append, e1, List.filter_cons]
  rw [h1]
  simp only [Bool.not_true, if_neg Bool.false_ne_true, e2]
/-- Time goes on: nobody goes yet. -/
theorem exp_tick {G : Gr} {t0 t : Int} {jq n K : Nat} {H : Gr} (h : ExpI G t0 t jq n K H) (hn : G.L.length = n) (hq : jq < n) (ht : t + 1 < t0 + 12) (hg : G.g ≠ 1099511627776) : tickB H = false ∧ ExpI G t0 (t + 1) jq 0 (K + 1) (tickG H) := by
  have hl := prs_len h.prs
  have hk : (tickL H).L = H.L := by
    show keepP (byT (H.t + 1)) H.L = H.L
    refine List.filter_eq_self.2 (fun m hm => ?_)
    obtain ⟨i, hi, rfl⟩ := List.mem_iff_getElem.1 hm
    have hd : H.t + 1 < H.L[i].d := by
      rw [h.tt, show H.L[i] = H.L.getD i mb0 from by simp [List.getD, hi]]
      by_cases hij : i = jq
      · subst hij; rw [h.qd]; exact ht
      · rw [h.od i (by omega) hij]; omega
    unfold byT
    simp
    omega
  have hg2 : H.g ≠ 1099511627776 := by rw [h.gg]; exact hg
  have hs := (show (tickL H).L.length = H.L.length from by rw [hk])
  unfold tickB tickG
  rw [if_neg hg2, if_pos hs]
  refine ⟨by simp [hs], ⟨tickL_ok h.ok, by rw [hk]; exact h.prs, by show H.t + 1 = t + 1; rw [h.tt], h.gg, by rw [hk]; exact h.qd, fun p hp => by omega⟩⟩
/-- The last tick: who was silent goes, and nobody else. -/
theorem exp_last {G : Gr} {t0 t : Int} {jq n K : Nat} {H : Gr} (h : ExpI G t0 t jq n K H) (ha : Asc G.L) (hn : G.L.length = n) (hq : jq < n) (ht : t + 1 = t0 + 12) (hg : G.g ≠ 1099511627776) : tickB H = true ∧ GOk (tickG H) (K + 1) ∧ (tickG H).L.length + 1 = n ∧ cnt (idsL (tickG H).L) (G.L.getD jq mb0).i = 0 := by
  have hl := prs_len h.prs
  have hA := h.asc ha
  have hk : (tickL H).L = H.L.take jq ++ H.L.drop (jq + 1) := by
    show keepP (byT (H.t + 1)) H.L = _
    refine keep_one (by omega) ?_ (fun q hq1 hq2 => ?_)
    · unfold byT; rw [h.qd, h.tt]; simp; omega
    · unfold byT; rw [h.od q (by omega) hq2, h.tt]; first | (simp; done) | (simp; omega)
  have hlen : (tickL H).L.length + 1 = n := by rw [hk]; simp; omega
  have hg2 : H.g ≠ 1099511627776 := by rw [h.gg]; exact hg
  have hs : ¬ (tickL H).L.length = H.L.length := by omega
  have hG : tickG H = begG (tickL H) := by unfold tickG; rw [if_neg hg2, if_neg hs]
  refine ⟨?_, tickG_ok h.ok, ?_, ?_⟩
  · unfold tickB
    rw [beq_eq_false_iff_ne.2 hg2, beq_eq_false_iff_ne.2 hs]; rfl
  · rw [hG]; exact hlen
  · rw [hG]
    show cnt (idsL (tickL H).L) _ = 0
    rw [hk]
    unfold cnt idsL
    apply List.count_eq_zero.2
    intro hm
    obtain ⟨m, hm2, he⟩ := List.mem_map.1 hm
    rw [← prs_id h.prs (by omega)] at he
    rcases List.mem_append.1 hm2 with hm2 | hm2
    · obtain ⟨i, hi, rfl⟩ := List.mem_iff_getElem.1 hm2
      rw [List.length_take] at hi
      have := (asc_at hA (j := i) (k := jq) (by omega) (by omega)).1
      rw [show H.L.getD i mb0 = (H.L.take jq)[i] from by simp [List.getD, show i < H.L.length by omega]] at this
      omega
    · obtain ⟨i, hi, rfl⟩ := List.mem_iff_getElem.1 hm2
      rw [List.length_drop] at hi
      have := (asc_at hA (j := jq) (k := jq + 1 + i) (by omega) (by omega)).1
      rw [show H.L.getD (jq + 1 + i) mb0 = (H.L.drop (jq + 1))[i] from by simp [List.getD, show jq + 1 + i < H.L.length by omega]] at this
      omega
/-- A round of ticks: ahead of the twelfth tick, or behind it. -/
def RoundI (G : Gr) (jq : Nat) (tt : Nat) (H : Gr) : Prop := (tt ≤ 12 ∧ ExpI G G.t (G.t + (tt : Int) - 1) jq 0 (120 + tt) H) ∨ (tt = 13 ∧ GOk H 200 ∧ H.L.length + 1 = G.L.length ∧ cnt (idsL H.L) (G.L.getD jq mb0).i = 0)
end Go.Proofs.Ytocmhmfaehnliaa
