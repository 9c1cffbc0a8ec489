/- What a deed does to the packets' numbers (for MailOnce): they ascend, new ones come one by one, one that is taken does not come back. Plain mathematics. -/
import Derived.Test.YtkechaniaidieaaMlDoes
namespace Go.Proofs.Ytkechaniaidieaa
open Go.RowKit Vm
set_option linter.unusedVariables false

theorem sentL_getD {d f : Int} : ∀ (T : List (List UInt8)) (s : Int) (k : Nat), k < T.length → ((sentL d f s T).getD k pk0).n = s + 1 + k := by
  intro T
  induction T with
  | nil => intro s k h; simp at h
  | cons t T ih =>
    intro s k h
    cases k with
    | zero => show s + 1 = s + 1 + ((0 : Nat) : Int); omega
    | succ k =>
      have := ih (s + 1) k (by simp at h; omega)
      show ((sentL d f (s + 1) T).getD k pk0).n = _
      rw [this]; omega
theorem sentL_gt {d f : Int} : ∀ (T : List (List UInt8)) (s : Int) (y : Pk), y ∈ sentL d f s T → s < y.n ∧ y.n ≤ s + T.length := by
  intro T
  induction T with
  | nil => intro s y h; cases h
  | cons t T ih =>
    intro s y h
    rcases List.mem_cons.1 h with rfl | h
    · exact ⟨by show s < s + 1; omega, by show s + 1 ≤ s + ((t :: T).length : Int); rw [List.length_cons]; omega⟩
    · obtain ⟨h1, h2⟩ := ih _ _ h
      simp only [List.length_cons]
      exact ⟨by omega, by omega⟩
theorem sentL_asc {d f : Int} : ∀ (T : List (List UInt8)) (s : Int), (sentL d f s T).Pairwise (fun a b => a.n < b.n) := by
  intro T
  induction T with
  | nil => intro s; exact .nil
  | cons t T ih => intro s; exact .cons (fun y hy => (sentL_gt T _ y hy).1) (ih _)
/-- Numbers ascend, none is beyond s; none of those taken is there. -/
def InvO (s : Int) (L : List Pk) (tk : List Int) : Prop := L.Pairwise (fun a b => a.n < b.n) ∧ (∀ y ∈ L, y.n ≤ s) ∧ ∀ t ∈ tk, t ≤ s ∧ ∀ y ∈ L, y.n ≠ t
/-- The first m0 are not new; those behind come one by one. -/
def NewO (s s' : Int) (L : List Pk) : Prop := ∃ m0 : Nat, m0 ≤ L.length ∧ s' = s + ((L.length - m0 : Nat) : Int) ∧ ∀ k, k < L.length → (k < m0 → (L.getD k pk0).n ≤ s) ∧ (m0 ≤ k → (L.getD k pk0).n = s + 1 + ((k - m0 : Nat) : Int))
theorem newO_same {s : Int} {L : List Pk} (h : ∀ y ∈ L, y.n ≤ s) : NewO s s L :=
  ⟨L.length, Nat.le_refl _, by simp, fun k hk => ⟨fun _ => by
    have : L.getD k pk0 ∈ L := by simp [List.getD, hk]
    exact h _ this, fun h => by omega⟩⟩
theorem newO_app {s d f : Int} {L : List Pk} {T : List (List UInt8)} (h : ∀ y ∈ L, y.n ≤ s) : NewO s (s + T.length) (L ++ sentL d f s T) := by
  refine ⟨L.length, by simp, by simp [sentL_len], fun k hk => ?_⟩
  simp only [List.length_append, sentL_len] at hk
  refine ⟨fun hk2 => ?_, fun hk2 => ?_⟩
  · have : (L ++ sentL d f s T).getD k pk0 = L.getD k pk0 := by simp [List.getD, List.getElem?_append_left hk2]
    rw [this]
    exact h _ (by simp [List.getD, hk2])
  · have : (L ++ sentL d f s T).getD k pk0 = (sentL d f s T).getD (k - L.length) pk0 := by simp only [List.getD, List.getElem?_append_right hk2]
    rw [this, sentL_getD T s _ (by omega)]
theorem invO_app {s d f : Int} {L : List Pk} {tk : List Int} {T : List (List UInt8)} (h : InvO s L tk) : InvO (s + T.length) (L ++ sentL d f s T) tk := by
  obtain ⟨h1, h2, h3⟩ := h
  refine ⟨List.pairwise_append.2 ⟨h1, sentL_asc T s, fun a ha b hb => ?_⟩, fun y hy => ?_, fun t ht => ⟨?_, fun y hy => ?_⟩⟩
  · have := h2 a ha; have := (sentL_gt T s b hb).1; omega
  · rcases List.mem_append.1 hy with hy | hy
    · have := h2 y hy; omega
    · exact (sentL_gt T s y hy).2
  · have := (h3 t ht).1; omega
  · rcases List.mem_append.1 hy with hy | hy
    · exact (h3 t ht).2 y hy
    · have := (sentL_gt T s y hy).1; have := (h3 t ht).1; omega
theorem invO_send {s d f E s' : Int} {L L' : List Pk} {T : List (List UInt8)} {tk : List Int} (h : InvO s L tk) (hS : SendIs s L d f T E s' L') : InvO s' L' tk ∧ NewO s s' L' := by
  rcases hS with ⟨_, _, rfl, rfl⟩ | ⟨_, _, _, rfl, rfl⟩ | ⟨_, _, _, rfl, rfl⟩
  · exact ⟨h, newO_same h.2.1⟩
  · exact ⟨h, newO_same h.2.1⟩
  · exact ⟨invO_app h, newO_app h.2.1⟩
theorem pairwise_del {L : List Pk} (h : L.Pairwise (fun a b => a.n < b.n)) (k : Nat) (hk : k < L.length) : (delL L k).Pairwise (fun a b => a.n < b.n) ∧ ∀ y ∈ delL L k, y ∈ L ∧ y.n ≠ (L.getD k pk0).n := by
  have e : L = L.take k ++ L.getD k pk0 :: L.drop (k + 1) := by
    rw [show L.getD k pk0 = L[k] from by simp [List.getD, hk], List.getElem_cons_drop, List.take_append_drop]
  obtain ⟨z, hz⟩ : ∃ z, L.getD k pk0 = z := ⟨_, rfl⟩
  rw [hz] at e ⊢
  rw [e] at h
  obtain ⟨h1, h2, h3⟩ := List.pairwise_append.1 h
  obtain ⟨h4, h5⟩ := List.pairwise_cons.1 h2
  refine ⟨List.pairwise_append.2 ⟨h1, h5, fun a ha b hb => h3 a ha b (List.mem_cons_of_mem _ hb)⟩, fun y hy => ?_⟩
  rcases List.mem_append.1 hy with hy | hy
  · have := h3 y hy z (List.mem_cons_self ..)
    exact ⟨List.mem_of_mem_take hy, by omega⟩
  · have := h4 y hy
    exact ⟨List.mem_of_mem_drop hy, by omega⟩
/-- A deed, seen from the numbers. -/
theorem invO_step {s s' : Int} {L L' : List Pk} {tk : List Int} {x : De} {y : Pk} {ok : Bool} (h : InvO s L tk) (hD : DoesIs s L x y ok s' L') :
    NewO s s' L' ∧ L'.Pairwise (fun a b => a.n < b.n) ∧ (ok = false → InvO s' L' tk) ∧ (ok = true → InvO s' L' (tk ++ [y.n]) ∧ (∀ t ∈ tk, t ≠ y.n) ∧ ∀ z ∈ L', z.n ≠ y.n) := by
  rcases hD with ⟨_, E, hS, rfl, rfl⟩ | ⟨_, E, hS, rfl, rfl⟩ | ⟨_, E, hS, rfl, rfl⟩
  · obtain ⟨h1, h2⟩ := invO_send h hS
    exact ⟨h2, h1.1, fun _ => h1, fun h => by cases h⟩
  · obtain ⟨h1, h2, h3⟩ := h
    rcases hS with ⟨_, rfl, rfl, rfl⟩ | ⟨k, _, hk, rfl, rfl, rfl⟩
    · exact ⟨newO_same h2, h1, fun _ => ⟨h1, h2, h3⟩, fun h => by cases h⟩
    · obtain ⟨h4, h5⟩ := pairwise_del h1 k hk
      have hm : L.getD k pk0 ∈ L := by simp [List.getD, hk]
      refine ⟨newO_same fun z hz => h2 z (h5 z hz).1, h4, (fun h => by cases h), fun _ => ⟨⟨h4, fun z hz => h2 z (h5 z hz).1, fun t ht => ?_⟩, fun t ht => fun h => (h3 t ht).2 _ hm h.symm, fun z hz => (h5 z hz).2⟩⟩
      rcases List.mem_append.1 ht with ht | ht
      · exact ⟨(h3 t ht).1, fun z hz => (h3 t ht).2 z (h5 z hz).1⟩
      · rw [List.mem_singleton.1 ht]
        exact ⟨h2 _ hm, fun z hz => (h5 z hz).2⟩
  · rcases hS with ⟨_, _, rfl, rfl⟩ | ⟨k, _, _, hS⟩
    · exact ⟨newO_same h.2.1, h.1, fun _ => h, fun h => by cases h⟩
    · obtain ⟨h1, h2⟩ := invO_send h hS
      exact ⟨h2, h1.1, fun _ => h1, fun h => by cases h⟩
/-- Numbers that ascend, at two places. -/
theorem asc_at {L : List Pk} (h : L.Pairwise (fun a b => a.n < b.n)) (k : Nat) (h0 : 0 < k) (hk : k < L.length) : (L.getD (k - 1) pk0).n < (L.getD k pk0).n := by
  have := List.pairwise_iff_getElem.1 h (k - 1) k (by omega) hk (by omega)
  simpa [List.getD, hk, show k - 1 < L.length by omega] using this
end Go.Proofs.Ytkechaniaidieaa
