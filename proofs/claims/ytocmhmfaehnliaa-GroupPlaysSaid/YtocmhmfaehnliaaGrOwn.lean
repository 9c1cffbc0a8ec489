/- Who has what, at every moment: plain mathematics. -/
import Derived.Test.YtocmhmfaehnliaaGrRise
namespace Go.Proofs.Ytocmhmfaehnliaa
open Go.RowKit Vm As
set_option linter.unusedVariables false
set_option linter.unusedSimpArgs false

/-- At every moment: all is shared out evenly among the members. -/
structure ShrI (P : Nat) (G : Gr) (K : Nat) : Prop where
  ok : GOk G K
  asc : Asc G.L
  len : G.O.length = P
  fair : FairOf P (idsL G.L) G.O
theorem asc_ids {L : List Mb} (h : Asc L) : (idsL L).Pairwise (· < ·) := by
  unfold Asc prs at h
  unfold idsL
  rw [List.pairwise_map] at *
  exact h.imp (fun h => h.1)
theorem memL_ids {G : Gr} {K : Nat} (hok : GOk G K) (h : Asc G.L) : memL (idsL G.L) = idsL G.L :=
  memIs_unique (memL_is _) ⟨asc_ids h, fun x => ⟨fun hx => ⟨hx, by
    unfold idsL at hx
    obtain ⟨m, hm, rfl⟩ := List.mem_map.1 hx
    have := (hok.mem m hm).1.1
    omega⟩, fun hx => hx.1⟩⟩
theorem ids_pos {G : Gr} {K : Nat} (hok : GOk G K) : ∀ x ∈ idsL G.L, 0 < x := fun x hx => by
  unfold idsL at hx
  obtain ⟨m, hm, rfl⟩ := List.mem_map.1 hx
  have := (hok.mem m hm).1.1
  omega
theorem shrI_beg {P : Nat} {G : Gr} {K : Nat} (hok : GOk G K) (ha : Asc G.L) (hl : G.O.length = P) (hg : G.g ≠ 1099511627776) : ShrI P (begG G) K := by
  have h0 := hok.o0
  have h1 := hok.o1
  refine ⟨begG_ok hok hg, ha, ?_, ?_⟩
  · show (ownF G).length = P
    rw [ownF_len G h0 (by omega), hl]
  · show FairOf P (idsL G.L) (ownF G)
    have hp : okP (P : Int) = true := by unfold okP; simp; omega
    unfold ownF
    rw [hl]
    split
    · have := fairOf_sticky (P : Int) (idsL G.L) G.O hp
      rw [memL_ids hok ha] at this
      simpa using this
    · have := fairOf_range (P : Int) (idsL G.L) hp
      rw [memL_ids hok ha] at this
      simpa using this
theorem shrI_hear {P : Nat} {G : Gr} {K : Nat} {j : Nat} (h : ShrI P G K) : ShrI P (hearG G j) K :=
  ⟨hearG_ok h.ok, asc_hear h.asc, h.len, by have := h.fair; rw [ids_hear]; exact this⟩
theorem ShrI.more {P : Nat} {G : Gr} {K K' : Nat} (h : ShrI P G K) (hk : K ≤ K') : ShrI P G K' := ⟨h.ok.more hk, h.asc, h.len, h.fair⟩
theorem shrI_sync {P : Nat} {G : Gr} {K : Nat} {id : Int} (h : ShrI P G K) : ShrI P (syncG G id) K := by
  unfold syncG; split
  · exact shrI_hear h
  · exact h
theorem shrI_step {P : Nat} {G : Gr} {K : Nat} {y : Gd} (h : ShrI P G K) : ShrI P (doesY G y) (K + 1) := by
  unfold doesY
  split
  · unfold joinG; split
    · next he =>
      have hb : (1 ≤ y.a ∧ y.a ≤ 8) ∧ G.g ≠ 1099511627776 ∧ G.n ≠ 1099511627776 := by
        unfold joinE at he
        split at he
        · omega
        · split at he
          · omega
          · omega
      exact shrI_beg (addG_ok h.ok hb.1 hb.2.2) (asc_add h.ok h.asc) h.len hb.2.1
    · exact h.more (by omega)
  · split
    · exact (shrI_sync h).more (by omega)
    · split
      · unfold beatG; split
        · exact (shrI_hear h).more (by omega)
        · exact h.more (by omega)
      · split
        · unfold leaveG; split
          · next he =>
            have hb : G.g ≠ 1099511627776 := by
              unfold leaveE at he
              split at he
              · split at he
                · omega
                · assumption
              · omega
            exact (shrI_beg (G := { G with L := keepP (byI y.a) G.L }) (dropG_ok _ h.ok) (asc_keep h.asc) h.len hb).more (by omega)
          · exact h.more (by omega)
        · split
          · unfold tickG; split
            · exact ⟨tickS_ok h.ok, h.asc, h.len, h.fair⟩
            · split
              · next hmax he =>
                have he2 : (tickL G).L = G.L := List.filter_eq_self.2 (List.length_filter_eq_length_iff.1 he)
                exact ⟨tickL_ok h.ok, by rw [he2]; exact h.asc, h.len, by rw [he2]; exact h.fair⟩
              · next hmax he => exact shrI_beg (tickL_ok h.ok) (asc_keep h.asc) h.len hmax
          · exact h.more (by omega)
theorem shrI_new {P : Nat} {st : Bool} {gen nxt : Int} (h : newOk P gen nxt = true) : ShrI P (newG P st gen nxt) 0 := by
  refine ⟨newG_ok h, by unfold Asc prs newG; simp, by simp [newG], ?_⟩
  unfold FairOf newG
  refine ⟨by simp, .inl ⟨rfl, rfl⟩⟩
theorem cnt_take1 (O : List Int) (x : Int) (p : Nat) (hp : p < O.length) : cnt (O.take (p + 1)) x = cnt (O.take p) x + if O.getD p 0 = x then 1 else 0 := cnt_take O x p hp
theorem ownTo_succ (O : List Int) (x : Int) (p : Nat) : ownTo O x (p + 1) = ownTo O x p ++ (if O.getD p 0 = x then [(p : Int)] else []) := rfl
theorem ownTo_cnt (O : List Int) (x : Int) : ∀ p, p ≤ O.length → (ownTo O x p).length = cnt (O.take p) x
  | 0, _ => by simp [ownTo, cnt]
  | p + 1, hp => by
    rw [cnt_take1 O x p (by omega), ← ownTo_cnt O x p (by omega), ownTo_succ, List.length_append]
    split <;> simp
theorem ownTo_at (O : List Int) (x : Int) : ∀ p j, j < (ownTo O x p).length → ∃ q : Nat, (ownTo O x p).getD j 0 = (q : Int) ∧ q < p ∧ O.getD q 0 = x
  | 0, j, h => by simp [ownTo] at h
  | p + 1, j, h => by
    rw [ownTo_succ] at h ⊢
    by_cases hj : j < (ownTo O x p).length
    · obtain ⟨q, h1, h2, h3⟩ := ownTo_at O x p j hj
      refine ⟨q, ?_, by omega, h3⟩
      rw [← h1]
      simp [List.getD, List.getElem?_append_left hj]
    · by_cases he : O.getD p 0 = x
      · rw [if_pos he] at h ⊢
        simp at h
        refine ⟨p, ?_, by omega, he⟩
        have : j = (ownTo O x p).length := by omega
        subst this
        simp [List.getD]
      · rw [if_neg he] at h
        simp at h
        omega
/-- What the law asks of one moment. -/
theorem shrI_zero {P : Nat} {G : Gr} {K : Nat} (h : ShrI P G K) (h0 : G.L.length = 0) : cnt G.O 0 = P := by
  have hm : idsL G.L = [] := List.eq_nil_of_length_eq_zero (by rw [idsL_len, h0])
  rcases h.fair.2 with ⟨_, h2⟩ | ⟨h2, _⟩
  · rw [h2]; simp [cnt]
  · rw [hm] at h2; simp at h2
theorem shrI_share {P : Nat} {G : Gr} {K : Nat} (h : ShrI P G K) (h0 : 0 < G.L.length) : (∀ x ∈ idsL G.L, P / G.L.length ≤ cnt G.O x ∧ cnt G.O x ≤ P / G.L.length + 1) ∧ sumC G.O (idsL G.L) = P := by
  have hF : FairL P (idsL G.L) G.O := by
    rcases h.fair.2 with ⟨h1, _⟩ | ⟨_, h2⟩
    · have h3 : G.L.length = 0 := by rw [← idsL_len, h1]; rfl
      omega
    · exact h2
  have hs := asc_ids h.asc
  have hp := ids_pos h.ok
  have h1 := fair_low hs hp hF
  have h2 := hF.1.2.2.1
  rw [idsL_len] at h1 h2
  exact ⟨fun x hx => ⟨h1 x hx, h2 x hx⟩, fair_sum hs hp hF⟩
theorem ids_getD {L : List Mb} {q : Nat} (h : q < L.length) : (idsL L).getD q 0 = (L.getD q mb0).i := by simp [idsL, List.getD, h]
theorem below_of {A B C : Prop} (h : A ∧ B ∧ C) : C := h.2.2
theorem held_own {w0 w w' : World} {p q : Addr} {u v : Value} (h : w.cell? p = some u ∧ w.cell? q = some v ∧ Below w0.heap.size w0 w) (hb : Below w.heap.size w w') : w'.cell? p = some u ∧ w'.cell? q = some v ∧ Below w0.heap.size w0 w' := ⟨(hb.cell (cell_lt h.1)).trans h.1, (hb.cell (cell_lt h.2.1)).trans h.2.1, gtrans h.2.2 hb⟩
end Go.Proofs.Ytocmhmfaehnliaa
