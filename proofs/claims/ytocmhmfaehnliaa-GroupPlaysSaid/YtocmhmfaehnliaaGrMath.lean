/- A group as the document has it: plain mathematics. -/
import Derived.Test.YtocmhmfaehnliaaMb
import Derived.Test.YtocmhmfaehnliaaAsFairW
namespace Go.Proofs.Ytocmhmfaehnliaa
open Go.RowKit Vm As
set_option linter.unusedVariables false
set_option linter.unusedSimpArgs false

structure Gr where
  st : Bool
  g : Int
  n : Int
  t : Int
  L : List Mb
  O : List Int
def idsL (L : List Mb) : List Int := L.map Mb.i
theorem idsL_len (L : List Mb) : (idsL L).length = L.length := by simp [idsL]
theorem idsL_take (L : List Mb) (k : Nat) (h : k < L.length) : idsL (L.take (k + 1)) = idsL (L.take k) ++ [(L.getD k mb0).i] := by
  rw [take_get L mb0 k h]; simp [idsL]
def ownF (G : Gr) : List Int := if G.st = true then stickyF G.O.length (idsL G.L) G.O else rangeF G.O.length (idsL G.L)
def begG (G : Gr) : Gr := { G with g := G.g + 1, O := ownF G }
def hasI (L : List Mb) (id : Int) : Bool := L.any fun m => m.i == id
def idxI (L : List Mb) (id : Int) : Nat := L.findIdx fun m => m.i == id
def hearG (G : Gr) (j : Nat) : Gr := { G with L := G.L.set j { G.L.getD j mb0 with d := G.t + 12 } }
def keepP (p : Mb → Bool) (L : List Mb) : List Mb := L.filter fun m => !p m
def joinE (G : Gr) (x : Int) : Int := if x < 1 ∨ 8 < x then 1 else if G.g = 1099511627776 ∨ G.n = 1099511627776 then 6 else 0
def byW (x : Int) (m : Mb) : Bool := m.k == x
def byI (x : Int) (m : Mb) : Bool := m.i == x
def byT (t : Int) (m : Mb) : Bool := decide (m.d ≤ t)
def addG (G : Gr) (x : Int) : Gr := { G with n := G.n + 1, L := keepP (byW x) G.L ++ [⟨G.n, x, G.t + 12⟩] }
def joinG (G : Gr) (x : Int) : Gr := if joinE G x = 0 then begG (addG G x) else G
def joinI (G : Gr) (x : Int) : Int := if joinE G x = 0 then G.n else 0
def joinN (G : Gr) (x : Int) : Int := if joinE G x = 0 then G.g + 1 else 0
def syncE (G : Gr) (id : Int) : Int := if hasI G.L id = true then 0 else 11
def syncG (G : Gr) (id : Int) : Gr := if hasI G.L id = true then hearG G (idxI G.L id) else G
def syncN (G : Gr) (id : Int) : Int := if hasI G.L id = true then G.g else 0
def ownTo (O : List Int) (id : Int) : Nat → List Int
  | 0 => []
  | p + 1 => ownTo O id p ++ (if O.getD p 0 = id then [(p : Int)] else [])
def syncL (G : Gr) (id : Int) : List Int := if hasI G.L id = true then ownTo G.O id G.O.length else []
def beatE (G : Gr) (id gen : Int) : Int := if hasI G.L id = true then (if gen = G.g then 0 else 12) else 11
def beatG (G : Gr) (id gen : Int) : Gr := if beatE G id gen = 0 then hearG G (idxI G.L id) else G
def leaveE (G : Gr) (id : Int) : Int := if hasI G.L id = true then (if G.g = 1099511627776 then 6 else 0) else 11
def leaveG (G : Gr) (id : Int) : Gr := if leaveE G id = 0 then begG { G with L := keepP (byI id) G.L } else G
def tickS (G : Gr) : Gr := { G with t := G.t + 1 }
def tickL (G : Gr) : Gr := { G with t := G.t + 1, L := keepP (byT (G.t + 1)) G.L }
def tickB (G : Gr) : Bool := !(G.g == 1099511627776) && !((tickL G).L.length == G.L.length)
def tickG (G : Gr) : Gr := if G.g = 1099511627776 then tickS G else if (tickL G).L.length = G.L.length then tickL G else begG (tickL G)
def mayE (G : Gr) (id gen p : Int) : Int := if hasI G.L id = true then (if gen = G.g then (if 0 ≤ p ∧ p < (G.O.length : Int) ∧ G.O.getD p.toNat 0 = id then 0 else 13) else 12) else 11
theorem ownTo_len (O : List Int) (id : Int) : ∀ p, (ownTo O id p).length ≤ p
  | 0 => by simp [ownTo]
  | p + 1 => by
    have := ownTo_len O id p
    unfold ownTo
    split <;> simp <;> omega
/-- What holds of any group, K deeds behind its beginning. -/
structure GOk (G : Gr) (K : Nat) : Prop where
  len : G.L.length ≤ K
  t0 : 0 ≤ G.t
  t1 : G.t ≤ K
  g0 : 0 ≤ G.g
  g1 : G.g ≤ 1099511627776
  n0 : 1 ≤ G.n
  n1 : G.n ≤ 1099511627776
  o0 : 1 ≤ G.O.length
  o1 : G.O.length ≤ 4
  mem : ∀ m ∈ G.L, (1 ≤ m.i ∧ m.i < G.n) ∧ (1 ≤ m.k ∧ m.k ≤ 8) ∧ (0 ≤ m.d ∧ m.d ≤ (K : Int) + 12)
  own : ∀ o ∈ G.O, 0 ≤ o ∧ o < G.n
theorem keepP_len (p : Mb → Bool) (L : List Mb) : (keepP p L).length ≤ L.length := List.length_filter_le _ _
theorem keepP_mem {p : Mb → Bool} {L : List Mb} {m : Mb} (h : m ∈ keepP p L) : m ∈ L := (List.mem_filter.1 h).1
theorem ownF_len (G : Gr) (h0 : 1 ≤ G.O.length) (h1 : G.O.length ≤ 64) : (ownF G).length = G.O.length := by
  have hok : okP (G.O.length : Int) = true := by unfold okP; simp; omega
  unfold ownF stickyF rangeF
  rw [if_pos hok, if_pos hok]
  split
  · rw [stickyL_len]; omega
  · rw [rangeL_len]; omega
theorem ownF_mem {G : Gr} {o : Int} (h : o ∈ ownF G) : o = 0 ∨ o ∈ idsL G.L := by
  unfold ownF at h
  split at h
  · exact sticky_mem h
  · exact range_mem h
theorem begG_ok {G : Gr} {K : Nat} (h : GOk G K) (hg : G.g ≠ 1099511627776) : GOk (begG G) K := by
  have hl := ownF_len G h.o0 (by have := h.o1; omega)
  refine ⟨h.len, h.t0, h.t1, ?_, ?_, h.n0, h.n1, ?_, ?_, h.mem, ?_⟩
  · show 0 ≤ G.g + 1; have := h.g0; omega
  · show G.g + 1 ≤ _; have := h.g1; omega
  · show 1 ≤ (ownF G).length; rw [hl]; exact h.o0
  · show (ownF G).length ≤ 4; rw [hl]; exact h.o1
  · intro o ho
    rcases ownF_mem ho with rfl | hm
    · show 0 ≤ 0 ∧ 0 < G.n; have := h.n0; omega
    · unfold idsL at hm
      obtain ⟨m, hm2, rfl⟩ := List.mem_map.1 hm
      have := (h.mem m hm2).1
      show 0 ≤ m.i ∧ m.i < G.n
      omega
theorem GOk.more {G : Gr} {K K' : Nat} (h : GOk G K) (hK : K ≤ K') : GOk G K' := by
  obtain ⟨h1, h2, h3, h4, h5, h6, h7, h8, h9, h10, h11⟩ := h
  exact ⟨by omega, h2, by omega, h4, h5, h6, h7, h8, h9, fun m hm => by have := h10 m hm; omega, h11⟩
theorem addG_ok {G : Gr} {K : Nat} {x : Int} (h : GOk G K) (hx : 1 ≤ x ∧ x ≤ 8) (hn : G.n ≠ 1099511627776) : GOk (addG G x) (K + 1) := by
  obtain ⟨h1, h2, h3, h4, h5, h6, h7, h8, h9, h10, h11⟩ := h
  have hkl := keepP_len (byW x) G.L
  refine ⟨?_, h2, ?_, h4, h5, ?_, ?_, h8, h9, ?_, ?_⟩
  · show (keepP (byW x) G.L ++ [_]).length ≤ K + 1; simp; omega
  · show G.t ≤ _; omega
  · show 1 ≤ G.n + 1; omega
  · show G.n + 1 ≤ _; omega
  · intro m hm
    show (1 ≤ m.i ∧ m.i < G.n + 1) ∧ _
    rcases List.mem_append.1 hm with hm | hm
    · have := h10 m (keepP_mem hm); omega
    · rw [List.mem_singleton.1 hm]; simp only; omega
  · intro o ho
    show 0 ≤ o ∧ o < G.n + 1
    have := h11 o ho; omega
theorem joinG_ok {G : Gr} {K : Nat} {x : Int} (h : GOk G K) : GOk (joinG G x) (K + 1) := by
  unfold joinG
  split
  · next he =>
    unfold joinE at he
    split at he
    · omega
    · split at he
      · omega
      · next h1 h2 => exact begG_ok (addG_ok h (by omega) (by omega)) (show G.g ≠ _ by omega)
  · exact h.more (by omega)
theorem hearG_ok {G : Gr} {K : Nat} {j : Nat} (h : GOk G K) : GOk (hearG G j) K := by
  obtain ⟨h1, h2, h3, h4, h5, h6, h7, h8, h9, h10, h11⟩ := h
  refine ⟨?_, h2, h3, h4, h5, h6, h7, h8, h9, ?_, h11⟩
  · show (G.L.set j _).length ≤ K; simp; exact h1
  · intro m hm
    by_cases hj : j < G.L.length
    · rcases List.mem_or_eq_of_mem_set hm with hm | rfl
      · exact h10 m hm
      · have := h10 _ (getD_mem G.L mb0 j hj)
        simp only
        show (1 ≤ (G.L.getD j mb0).i ∧ (G.L.getD j mb0).i < G.n) ∧ _
        omega
    · have : (hearG G j).L = G.L := by show G.L.set j _ = G.L; exact List.set_eq_of_length_le (by omega)
      rw [this] at hm; exact h10 m hm
theorem syncG_ok {G : Gr} {K : Nat} {id : Int} (h : GOk G K) : GOk (syncG G id) K := by
  unfold syncG; split
  · exact hearG_ok h
  · exact h
theorem beatG_ok {G : Gr} {K : Nat} {id gen : Int} (h : GOk G K) : GOk (beatG G id gen) K := by
  unfold beatG; split
  · exact hearG_ok h
  · exact h
theorem dropG_ok {G : Gr} {K : Nat} (p : Mb → Bool) (h : GOk G K) : GOk { G with L := keepP p G.L } K := by
  obtain ⟨h1, h2, h3, h4, h5, h6, h7, h8, h9, h10, h11⟩ := h
  exact ⟨Nat.le_trans (keepP_len p G.L) h1, h2, h3, h4, h5, h6, h7, h8, h9, fun m hm => h10 m (keepP_mem hm), h11⟩
theorem leaveG_ok {G : Gr} {K : Nat} {id : Int} (h : GOk G K) : GOk (leaveG G id) K := by
  unfold leaveG; split
  · next he =>
    unfold leaveE at he
    split at he
    · split at he
      · omega
      · exact begG_ok (dropG_ok _ h) (by assumption)
    · omega
  · exact h
theorem tickS_ok {G : Gr} {K : Nat} (h : GOk G K) : GOk (tickS G) (K + 1) := by
  obtain ⟨h1, h2, h3, h4, h5, h6, h7, h8, h9, h10, h11⟩ := h
  exact ⟨Nat.le_succ_of_le h1, by show 0 ≤ G.t + 1; omega, by show G.t + 1 ≤ _; omega, h4, h5, h6, h7, h8, h9, fun m hm => ⟨(h10 m hm).1, (h10 m hm).2.1, (h10 m hm).2.2.1, by have := (h10 m hm).2.2.2; omega⟩, h11⟩
theorem tickL_ok {G : Gr} {K : Nat} (h : GOk G K) : GOk (tickL G) (K + 1) := dropG_ok (byT (G.t + 1)) (tickS_ok h)
theorem tickG_ok {G : Gr} {K : Nat} (h : GOk G K) : GOk (tickG G) (K + 1) := by
  unfold tickG; split
  · exact tickS_ok h
  · split
    · exact tickL_ok h
    · exact begG_ok (tickL_ok h) (by assumption)
theorem wf40 {x : Int} (h0 : 0 ≤ x) (h1 : x ≤ 1099511627776) : (Lit.int .i64 x).wf = true := by
  simp only [Lit.wf, Bool.and_eq_true, decide_eq_true_eq]
  exact ⟨by show (-9223372036854775808 : Int) ≤ _; omega, by show _ ≤ (9223372036854775807 : Int); omega⟩
theorem GOk.wfO {G : Gr} {K : Nat} (h : GOk G K) : ∀ x ∈ G.O, (Lit.int .i64 x).wf = true := fun x hx => by
  have h1 := h.own x hx
  have h2 := h.n1
  exact wf40 h1.1 (by omega)
theorem GOk.wfI {G : Gr} {K : Nat} (h : GOk G K) : ∀ x ∈ idsL G.L, (Lit.int .i64 x).wf = true := fun x hx => by
  unfold idsL at hx
  obtain ⟨m, hm2, rfl⟩ := List.mem_map.1 hx
  have h1 := (h.mem m hm2).1
  have h2 := h.n1
  exact wf40 (by omega) (by omega)
end Go.Proofs.Ytocmhmfaehnliaa
