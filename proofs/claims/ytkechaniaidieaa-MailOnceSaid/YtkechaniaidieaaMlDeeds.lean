/- What MailOnce's walk needs of deeds (as in gen/mailtwice.py's head). -/
import Derived.Test.YtkechaniaidieaaMlOnce
import Derived.Test.YtkechaniaidieaaAwake24
import Derived.Deep.RegionHeld3
namespace Go.Proofs.Ytkechaniaidieaa
open Go.RowKit Vm
set_option linter.unusedVariables false
set_option linter.unusedSimpArgs false

/-- Rows of unlike types own unlike blocks. -/
theorem own_ne {w : World} {b1 b2 s1 s2 n1 n2 : Nat} {e1 e2 : TypeId} {v1 v2 : Value} {x1 x2 : List Value} (h1 : w.ownsRow b1 e1 s1 v1 n1 x1) (h2 : w.ownsRow b2 e2 s2 v2 n2 x2) (hne : e1 ≠ e2) : ∀ k, v1.ownBlock = some k → v2.ownBlock ≠ some k := by
  intro k hk1 hk2
  rcases h1.2 with ⟨rfl, _⟩ | ⟨g1, c1, cur1, rfl, _, hh1, _⟩
  · cases hk1
  · rcases h2.2 with ⟨rfl, _⟩ | ⟨g2, c2, cur2, rfl, _, hh2, _⟩
    · cases hk2
    · injection hk1 with hk1
      injection hk2 with hk2
      have : g1 = g2 := hk1.trans hk2.symm
      subst this
      rw [hh1] at hh2
      injection hh2 with hh2
      injection hh2 with _ h3 _
      exact hne h3
theorem MA.rowown {w : World} {g : Nat} {s : Int} {L : List Pk} {a : Option Addr} {c : Nat} (h : MA w g s L a c) : ∀ y, a = some y → (Value.slice a L.length c).ownBlock = some y.block ∧ g + 1 ≤ y.block := by
  intro y hy
  subst hy
  rcases h.2.2 with ⟨h1, _⟩ | ⟨g', cap, cur, h1, h2, _⟩
  · cases h1
  · injection h1 with h1 _ _
    injection h1 with h1
    subst h1
    exact ⟨rfl, h2⟩
theorem own_mv {w w' : World} {base n size g : Nat} {e : TypeId} {v : Value} {xs : List Value} {a : Option Addr} (h : w.ownsRow base e size v n xs) (mv : Mv w w' g a) (hg : g < base) (ha : ∀ k y, v.ownBlock = some k → a = some y → y.block ≠ k) : w'.ownsRow base e size v n xs :=
  ownN_ne h (fun k hk => mv.2 k (h.lt k hk).2 (by have := (h.lt k hk).1; omega) (fun y hy => ha k y hk hy))
theorem sentL_mem {d f : Int} : ∀ (T : List (List UInt8)) (s : Int) (y : Pk), y ∈ sentL d f s T → s < y.n ∧ y.n ≤ s + T.length ∧ y.d = d ∧ y.f = f ∧ y.x ∈ T := by
  intro T
  induction T with
  | nil => intro s y h; cases h
  | cons t T ih =>
    intro s y h
    rcases List.mem_cons.1 h with rfl | h
    · exact ⟨by show s < s + 1; omega, by show s + 1 ≤ s + ((t :: T).length : Int); rw [List.length_cons]; omega, rfl, rfl, List.mem_cons_self ..⟩
    · obtain ⟨h1, h2, h3, h4, h5⟩ := ih _ _ h
      simp only [List.length_cons]
      exact ⟨by omega, by omega, h3, h4, List.mem_cons_of_mem _ h5⟩
def PkOk (s : Int) (y : Pk) : Prop := y.n ≤ s ∧ PlaceB y.d ∧ PlaceB y.f ∧ y.x.length ≤ 131072
def InvM (s : Int) (L : List Pk) (i : Nat) : Prop := 0 ≤ s ∧ s ≤ 300 * (i : Int) ∧ L.length ≤ 256 ∧ ∀ y ∈ L, PkOk s y
theorem not_bad {d f : Int} {T : List (List UInt8)} (h : ¬ BadS d f T) : PlaceB d ∧ PlaceB f ∧ ∀ t ∈ T, t.length ≤ 131072 := by
  unfold BadS at h
  refine ⟨Classical.byContradiction fun hh => h (.inl hh), Classical.byContradiction fun hh => h (.inr (.inl hh)), fun t ht => ?_⟩
  apply Classical.byContradiction
  intro hh
  exact h (.inr (.inr ⟨t, ht, by omega⟩))
theorem invM_send {s s' E d f : Int} {L L' : List Pk} {i : Nat} {T : List (List UInt8)} (h : InvM s L i) (hS : SendIs s L d f T E s' L') (hT : T.length ≤ 300) : InvM s' L' (i + 1) := by
  obtain ⟨h0, h1, h2, h3⟩ := h
  rcases hS with ⟨_, _, rfl, rfl⟩ | ⟨_, _, _, rfl, rfl⟩ | ⟨hb, hl, _, rfl, rfl⟩
  · exact ⟨h0, by omega, h2, h3⟩
  · exact ⟨h0, by omega, h2, h3⟩
  · obtain ⟨hd, hf, ht⟩ := not_bad hb
    refine ⟨by omega, by omega, by rw [List.length_append, sentL_len]; exact hl, fun y hy => ?_⟩
    rcases List.mem_append.1 hy with hy | hy
    · obtain ⟨h4, h5⟩ := h3 y hy
      exact ⟨by omega, h5⟩
    · obtain ⟨_, h4, h5, h6, h7⟩ := sentL_mem T s y hy
      exact ⟨h4, by rw [h5]; exact hd, by rw [h6]; exact hf, ht _ h7⟩
theorem delL_mem {L : List Pk} {k : Nat} {y : Pk} (h : y ∈ delL L k) : y ∈ L := by
  unfold delL at h
  rcases List.mem_append.1 h with h | h
  · exact List.mem_of_mem_take h
  · exact List.mem_of_mem_drop h
theorem invM_step {s s' : Int} {L L' : List Pk} {i : Nat} {x : De} {y : Pk} {ok : Bool} (h : InvM s L i) (hD : DoesIs s L x y ok s' L') (hT : x.T.length ≤ 300) : InvM s' L' (i + 1) := by
  rcases hD with ⟨_, E, hS, _⟩ | ⟨_, E, hS, rfl, _⟩ | ⟨_, E, hS, _⟩
  · exact invM_send h hS hT
  · obtain ⟨h0, h1, h2, h3⟩ := h
    rcases hS with ⟨_, _, _, rfl⟩ | ⟨k, _, hk, _, _, rfl⟩
    · exact ⟨h0, by omega, h2, h3⟩
    · exact ⟨h0, by omega, by rw [delL_len _ _ hk]; omega, fun y hy => h3 y (delL_mem hy)⟩
  · rcases hS with ⟨_, _, rfl, rfl⟩ | ⟨k, _, _, hS⟩
    · obtain ⟨h0, h1, h2, h3⟩ := h
      exact ⟨h0, by omega, h2, h3⟩
    · exact invM_send h hS (by simp)
theorem fewL_ok {w : World} {l : List De} (hi : ∀ x ∈ l, DeI w x) : ∀ x ∈ fewL l, DeI w x ∧ x.T.length ≤ 300 := by
  intro x hx
  unfold fewL at hx
  obtain ⟨y, hy, rfl⟩ := List.mem_map.1 hx
  exact cutD_ok (hi y (List.mem_of_mem_take hy))
theorem fewL_len (l : List De) : (fewL l).length ≤ 80 := by unfold fewL; rw [List.length_map, List.length_take]; omega
theorem de_apart {w : World} {x : De} {g : Nat} {a : Option Addr} (h : Sl w g x.a (stCells x.T)) (ha : ∀ y, a = some y → g + 1 ≤ y.block) : 0 < x.T.length → Apart x.a g a := by
  intro h0 z hz
  have := sl_block_lt h h0 z hz
  exact ⟨by omega, fun y hy => by have := ha y hy; omega⟩
end Go.Proofs.Ytkechaniaidieaa
