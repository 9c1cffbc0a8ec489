/- The walk of Group.member. -/
import Derived.Test.YtocmhmfaehnliaaGr
namespace Go.Proofs.Ytocmhmfaehnliaa
open Go.RowKit Vm
set_option linter.unusedVariables false
set_option linter.unusedSimpArgs false

def NoI (L : List Mb) (id : Int) (k : Nat) : Prop := ∀ p, p < k → ¬ (L.getD p mb0).i = id
theorem findIdx_at {L : List Mb} {p : Mb → Bool} : ∀ {k : Nat}, k < L.length → p (L.getD k mb0) = true → (∀ j, j < k → p (L.getD j mb0) = false) → L.findIdx p = k ∧ L.any p = true := by
  induction L with
  | nil => intro k hk; simp at hk
  | cons x L ih =>
    intro k hk h1 h2
    cases k with
    | zero =>
      have h3 : p x = true := by simpa using h1
      rw [List.findIdx_cons, h3]
      simp [h3]
    | succ k =>
      have h3 : p x = false := by simpa using h2 0 (by omega)
      obtain ⟨h4, h5⟩ := ih (k := k) (by simpa using hk) (by simpa using h1) (fun j hj => by simpa using h2 (j + 1) (by omega))
      rw [List.findIdx_cons, h3]
      exact ⟨by simp [h4], by simp [h5]⟩
theorem idx_found {L : List Mb} {id : Int} {k : Nat} (hk : k < L.length) (h : NoI L id k) (he : (L.getD k mb0).i = id) : hasI L id = true ∧ idxI L id = k := by
  have := findIdx_at (p := fun m => m.i == id) hk (by simpa using he) (fun j hj => by simpa using h j hj)
  exact ⟨this.2, this.1⟩
theorem idx_none {L : List Mb} {id : Int} (h : NoI L id L.length) : hasI L id = false := by
  unfold hasI
  rw [List.any_eq_false]
  intro x hx
  obtain ⟨i, hi, rfl⟩ := List.mem_iff_getElem.1 hx
  have := h i hi
  rw [show L.getD i mb0 = L[i] from by simp [List.getD, hi]] at this
  simpa using this
theorem idx_lt {L : List Mb} {id : Int} (h : hasI L id = true) : idxI L id < L.length ∧ (L.getD (idxI L id) mb0).i = id := by
  unfold hasI at h
  obtain ⟨x, hx, hp⟩ := List.any_eq_true.1 h
  have h1 : L.findIdx (fun m => m.i == id) < L.length := List.findIdx_lt_length_of_exists ⟨x, hx, hp⟩
  refine ⟨h1, ?_⟩
  have h2 := List.findIdx_getElem (w := h1)
  unfold idxI
  rw [show L.getD (L.findIdx fun m => m.i == id) mb0 = L[L.findIdx fun m => m.i == id] from by simp [List.getD, h1]]
  simpa using h2
def MemP (L : List Mb) (a : Option Addr) (id : Int) (e : Ending) : Prop := (hasI L id = true ∧ ∃ ga, a = some ⟨ga, 0, none⟩ ∧ e = .returned (.pointer (some ⟨ga, idxI L id * 3, none⟩))) ∨ (hasI L id = false ∧ e = .returned (.pointer none))
theorem gmem_nil (id : Int) (w : World) : Calls Try.prog 39 #[.pointer none, .int .i64 id] w fun e w' => e = .returned (.pointer none) ∧ Below w.heap.size w w' := by
  go_enter Try.func39, Try.ntmps39
  go_wp2_with fail
  go_ret
  exact ⟨rfl, Below.refl _ _⟩
set_option maxRecDepth 100000 in
set_option maxHeartbeats 4000000 in
theorem gmem_walk (id : Int) (G : Gr) (g : Nat) (a : Option Addr) (c : Nat) (b : Option Addr) (d : Nat) (w : World) (hNm : G.L.length ≤ 1000) (h : GrW w g G a c b d) :
    Calls Try.prog 39 #[.pointer (some ⟨g, 0, none⟩), .int .i64 id] w fun e w' => MemP G.L a id e ∧ Below w.heap.size w w' := by
  have HG := Lib.hid h
  obtain ⟨m0, m1, m2, m3, m4, m5, hfz⟩ := h.six
  have hg := h.lt
  clear hfz h
  obtain ⟨N, hN⟩ : ∃ N, G.L.length = N := ⟨_, rfl⟩
  have HN := Lib.hid hN
  rw [hN] at m4 hNm
  clear m0 m1 m2 m3 m5 hN
  go_enter Try.func39, Try.ntmps39
  go_wp2_with fail
  go_loopw [13] (fun I wr => ∃ k : Nat, k ≤ N ∧ I = .int .i64 k ∧ Hid (NoI G.L id k) ∧ Below w.heap.size w wr) (fun I _ => N - (intOf I).toNat)
  case atStart => exact ⟨0, by omega, rfl, Lib.hid (fun p hp => by omega), Below.refl _ _⟩
  case round =>
    obtain ⟨k, hk, rfl, HL, hbw⟩ := hrel
    have HG2 := HG.out.keep hbw
    have n4 := HG2.six.2.2.2.2.1
    rw [HN.out] at n4
    have hgw := HG2.lt
    by_cases hlt : k < N
    · have hil : k < G.L.length := by rw [HN.out]; exact hlt
      have hown := HG2.rowL
      rw [HN.out] at hown
      obtain ⟨ga, rfl, hgb, hgl, _, hcc⟩ := ownN_at hown (by omega)
      have r0 := hcc _ _ (mbCells_at G.L k hil).1
      obtain ⟨v, hv⟩ : ∃ v, (G.L.getD k mb0).i = v := ⟨_, rfl⟩
      rw [hv] at r0
      have HV := Lib.hid hv
      clear hv hcc hown HG2
      by_cases he : v = id
      · have HF := Lib.hid (idx_found hil HL.out (by rw [HV.out, he]))
        subst he
        go_wp2_with fail
        go_ret
        exact ⟨.inl ⟨HF.out.1, ga, rfl, by rw [HF.out.2]; rfl⟩, hbw⟩
      · have HL2 := Lib.hid (show NoI G.L id (k + 1) from fun p hp => by
          rcases Nat.lt_or_ge p k with h1 | h1
          · exact HL.out p h1
          · rw [show p = k from by omega, HV.out]; exact he)
        have hb : (v == id) = false := beq_eq_false_iff_ne.2 he
        go_wp2_with fail
        go_roundw
        case rel => exact ⟨k + 1, by omega, by go_num, HL2, hbw⟩
        case measure => simp [intOf]; omega
    · obtain rfl : k = N := by omega
      clear HG2
      have HF := Lib.hid (idx_none (L := G.L) (id := id) (by rw [HN.out]; exact HL.out))
      go_wp2_with fail
      go_ret
      exact ⟨.inr ⟨HF.out, rfl⟩, hbw⟩
end Go.Proofs.Ytocmhmfaehnliaa
