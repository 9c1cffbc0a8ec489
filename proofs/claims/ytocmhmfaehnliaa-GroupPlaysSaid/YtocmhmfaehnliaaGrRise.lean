/- How generations and numbers rise: plain mathematics. -/
import Derived.Test.YtocmhmfaehnliaaGrRun
namespace Go.Proofs.Ytocmhmfaehnliaa
open Go.RowKit Vm As
set_option linter.unusedVariables false
set_option linter.unusedSimpArgs false

def prs (L : List Mb) : List (Int × Int) := L.map fun m => (m.i, m.k)
def PR (a b : Int × Int) : Prop := a.1 < b.1 ∧ a.2 ≠ b.2
/-- Numbers rise, and each worker has one member at most. -/
def Asc (L : List Mb) : Prop := (prs L).Pairwise PR
theorem prs_hear (G : Gr) (j : Nat) : prs (hearG G j).L = prs G.L := by
  unfold hearG prs
  simp only
  rw [List.map_set]
  by_cases hj : j < G.L.length
  · have : (G.L.getD j mb0) = G.L[j] := by simp [List.getD, hj]
    rw [this]
    apply List.ext_getElem (by simp)
    intro i h1 h2
    rw [List.getElem_set]
    split
    · next h => subst h; simp
    · rfl
  · rw [List.set_eq_of_length_le (by simpa using hj)]
theorem ids_prs (L : List Mb) : idsL L = (prs L).map Prod.fst := by simp [idsL, prs]
theorem ids_hear (G : Gr) (j : Nat) : idsL (hearG G j).L = idsL G.L := by rw [ids_prs, ids_prs, prs_hear]
theorem asc_hear {G : Gr} {j : Nat} (h : Asc G.L) : Asc (hearG G j).L := by unfold Asc; rw [prs_hear]; exact h
theorem asc_keep {p : Mb → Bool} {L : List Mb} (h : Asc L) : Asc (keepP p L) := by
  unfold Asc prs keepP at *
  rw [List.pairwise_map] at *
  exact h.filter _
theorem asc_add {G : Gr} {K : Nat} {x : Int} (hok : GOk G K) (h : Asc G.L) : Asc (addG G x).L := by
  unfold addG
  simp only
  unfold Asc prs
  rw [List.map_append, List.pairwise_append]
  refine ⟨asc_keep (p := byW x) h, by simp, ?_⟩
  intro a ha b hb
  obtain ⟨m, hm, rfl⟩ := List.mem_map.1 ha
  simp at hb
  subst hb
  have h1 := (hok.mem m (keepP_mem hm)).1.2
  have h2 : (!byW x m) = true := (List.mem_filter.1 hm).2
  refine ⟨h1, ?_⟩
  intro he
  unfold byW at h2
  simp at h2
  exact h2 he
theorem asc_begG {G : Gr} (h : Asc G.L) : Asc (begG G).L := h
theorem asc_step {G : Gr} {K : Nat} {y : Gd} (hok : GOk G K) (h : Asc G.L) : Asc (doesY G y).L := by
  unfold doesY
  split
  · unfold joinG; split
    · exact asc_begG (asc_add hok h)
    · exact h
  · split
    · unfold syncG; split
      · exact asc_hear h
      · exact h
    · split
      · unfold beatG; split
        · exact asc_hear h
        · exact h
      · split
        · unfold leaveG; split
          · exact asc_begG (G := { G with L := keepP (byI y.a) G.L }) (asc_keep h)
          · exact h
        · split
          · unfold tickG; split
            · exact h
            · split
              · exact asc_keep h
              · exact asc_begG (G := tickL G) (asc_keep h)
          · exact h
theorem asc_run {G : Gr} {l : List Gd} (h : GOk G 0) (ha : Asc G.L) : ∀ k, Asc (runG G l k).L
  | 0 => ha
  | k + 1 => asc_step (runG_ok h k) (asc_run h ha k)
/-- What a deed does to numbers. -/
def StepR (G G' : Gr) : Prop := (idsL G'.L = idsL G.L ∧ G'.g = G.g ∧ G'.n = G.n) ∨ (idsL G'.L ≠ idsL G.L ∧ G'.g = G.g + 1 ∧ G.n ≤ G'.n ∧ G'.n ≤ G.n + 1)
theorem stepR_refl (G : Gr) : StepR G G := .inl ⟨rfl, rfl, rfl⟩
theorem keep_ids_ne {p : Mb → Bool} {L : List Mb} (h : (keepP p L).length ≠ L.length) : idsL (keepP p L) ≠ idsL L := fun e => by
  have := congrArg List.length e
  rw [idsL_len, idsL_len] at this
  exact h this
theorem stepR {G : Gr} {K : Nat} (y : Gd) (hok : GOk G K) : StepR G (doesY G y) := by
  unfold doesY
  split
  · unfold joinG; split
    · refine .inr ⟨fun e => ?_, rfl, ?_, ?_⟩
      · have h1 : G.n ∈ idsL (begG (addG G y.a)).L := by
          show G.n ∈ (keepP (byW y.a) G.L ++ [(⟨G.n, y.a, G.t + 12⟩ : Mb)]).map Mb.i
          simp
        rw [e] at h1
        unfold idsL at h1
        obtain ⟨m, hm, he⟩ := List.mem_map.1 h1
        have := (hok.mem m hm).1.2
        omega
      · show G.n ≤ G.n + 1; omega
      · show G.n + 1 ≤ G.n + 1; omega
    · exact stepR_refl G
  · split
    · unfold syncG; split
      · exact .inl ⟨ids_hear _ _, rfl, rfl⟩
      · exact stepR_refl G
    · split
      · unfold beatG; split
        · exact .inl ⟨ids_hear _ _, rfl, rfl⟩
        · exact stepR_refl G
      · split
        · unfold leaveG; split
          · next he =>
            have hh : hasI G.L y.a = true := by
              unfold leaveE at he
              split at he
              · assumption
              · omega
            refine .inr ⟨keep_ids_ne (p := byI y.a) (fun e => ?_), rfl, Int.le_refl _, by show G.n ≤ G.n + 1; omega⟩
            obtain ⟨m, hm, hp⟩ := List.any_eq_true.1 hh
            have h1 := List.length_filter_eq_length_iff.1 e m hm
            unfold byI at h1
            simp at h1 hp
            exact h1 hp
          · exact stepR_refl G
        · split
          · unfold tickG; split
            · exact .inl ⟨rfl, rfl, rfl⟩
            · split
              · next he =>
                have : (tickL G).L = G.L := by
                  have h1 := List.length_filter_eq_length_iff.1 he
                  exact List.filter_eq_self.2 h1
                exact .inl ⟨by rw [this], rfl, rfl⟩
              · next he => exact .inr ⟨keep_ids_ne (p := byT (G.t + 1)) he, rfl, Int.le_refl _, by show G.n ≤ G.n + 1; omega⟩
          · exact stepR_refl G
theorem asc_at {L : List Mb} (h : Asc L) {j k : Nat} (hj : j < k) (hk : k < L.length) : (L.getD j mb0).i < (L.getD k mb0).i ∧ (L.getD j mb0).k ≠ (L.getD k mb0).k := by
  have h1 := List.pairwise_iff_getElem.1 h j k (by simp [prs]; omega) (by simp [prs]; omega) hj
  unfold prs PR at h1
  simp only [List.getElem_map] at h1
  have e1 : L.getD j mb0 = L[j]'(by omega) := by simp [List.getD, show j < L.length by omega]
  have e2 : L.getD k mb0 = L[k]'hk := by simp [List.getD, hk]
  rw [e1, e2]
  exact h1
theorem cnt_old {G : Gr} {K : Nat} (hok : GOk G K) {x : Int} (h : G.n ≤ x) : cnt (idsL G.L) x = 0 := by
  unfold cnt idsL
  apply List.count_eq_zero.2
  intro hm
  obtain ⟨m, hm2, he⟩ := List.mem_map.1 hm
  have := (hok.mem m hm2).1.2
  omega
theorem gnext_same (G : Gr) (g : Nat) (S : Nat → Prop) (w : World) (h : GA w g G S) : Calls Try.prog 23 #[.pointer (some ⟨g, 0, none⟩)] w fun e w' => e = .returned (.int .i64 G.n) ∧ w' = w := by
  obtain ⟨a, c, b, d, h, rfl⟩ := h
  obtain ⟨m0, m1, m2, m3, m4, m5, hfz⟩ := h.six
  clear h hfz
  go_enter Try.func23, Try.ntmps23
  go_wp2_with fail
  go_ret
  exact ⟨rfl, rfl⟩
end Go.Proofs.Ytocmhmfaehnliaa
