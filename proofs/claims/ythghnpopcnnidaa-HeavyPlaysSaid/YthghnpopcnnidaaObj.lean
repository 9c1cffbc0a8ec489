/- An object behind a pointer: what a call may touch; a row that gets shorter: my own words, over any program. -/
import Derived.Test.YthghnpopcnnidaaRecs
import Derived.Test.YthghnpopcnnidaaWhole
import Derived.Test.YthghnpopcnnidaaApp
import Derived.Lib.SliceRun
import Derived.Lib.LazyBuf
namespace Go.Proofs.Ythghnpopcnnidaa
open Go.RowKit Vm
set_option linter.unusedVariables false
set_option linter.unusedSimpArgs false

/-- 'clear(s)', s a slice of n > 0 elements of K cells each: some cells are written, from the first one on. -/
theorem run_clear_recs {P : Program} (w : World) (t e ty : TypeId) (z : Value) (K : Nat) (ht : P.underlying t = some (.slice e)) (hv : ∀ w, (zeroValue e).run P w = .ok z w) (hz : z.cells.size = K) (hK : 0 < K) (h1 : ∀ v ∈ z.cells.toList, v.oneCell' = true) (b o n c : Nat) (hn : 0 < n)
    (hc : ∀ j, j < n * K → (w.cell? ⟨b, o + j, none⟩).isSome = true) (hf : ∀ j, j < n * K → w.frozen? ⟨b, o + j, none⟩ = false) :
    ∃ vs : List Value, vs.length = n * K ∧ (Builtin.clear_ #[t] ty #[.slice (some ⟨b, o, none⟩) n c]).run P w = .ok (.tuple #[]) (w.setCells b o vs) := by
  have hlen : (Builtin.zeroCells z.cells n).toList.length = n * K := by simp [Builtin.zeroCells, hz]
  have hone : ∀ v ∈ (Builtin.zeroCells z.cells n).toList, v.oneCell' = true := by
    intro v hv'
    simp only [Builtin.zeroCells, Array.toList_map, List.mem_map] at hv'
    obtain ⟨i, _, rfl⟩ := hv'
    have hi : i % z.cells.size < z.cells.size := Nat.mod_lt _ (by omega)
    rw [getElem!_pos z.cells _ hi]
    exact h1 _ (by simp)
  have hst := run_storeCells_cells (P := P) b o (Builtin.zeroCells z.cells n).toList 0 w (by rw [hlen]; simpa using hc) (by rw [hlen]; simpa using hf) hone
  simp only [Nat.add_zero] at hst
  obtain ⟨m, rfl⟩ : ∃ m, n = m + 1 := ⟨n - 1, by omega⟩
  exact ⟨(Builtin.zeroCells z.cells (m + 1)).toList, hlen, by simp [Builtin.clear_, run_underlying ht, hv, hst]⟩
def putAt : List Value → Nat → List Value → List Value
  | xs, _, [] => xs
  | xs, o, v :: r => putAt (xs.set o v) (o + 1) r
theorem putAt_eq : ∀ (vs xs : List Value) (o : Nat), o + vs.length ≤ xs.length → putAt xs o vs = xs.take o ++ vs ++ xs.drop (o + vs.length) := by
  intro vs
  induction vs with
  | nil => intro xs o h; simp [putAt]
  | cons v r ih =>
    intro xs o h
    simp only [List.length_cons] at h
    rw [putAt, ih _ _ (by rw [List.length_set]; omega)]
    have h1 : (xs.set o v).take (o + 1) = xs.take o ++ [v] := by
      have ho : o < xs.length := by omega
      rw [List.take_add_one]
      rw [List.take_set_of_le (Nat.le_refl o)]
      simp [ho]
    have h2 : (xs.set o v).drop (o + 1 + r.length) = xs.drop (o + 1 + r.length) := by rw [List.drop_set_of_lt (by omega)]
    rw [h1, h2, List.length_cons]
    simp [show o + 1 + r.length = o + (r.length + 1) from by omega]
theorem putAt_length (vs xs : List Value) (o : Nat) (h : o + vs.length ≤ xs.length) : (putAt xs o vs).length = xs.length := by
  rw [putAt_eq vs xs o h]; simp; omega
theorem ownN_setCells {base N g c size : Nat} {e : TypeId} : ∀ (vs : List Value) (w : World) (xs : List Value) (o : Nat), w.ownsRow base e size (.slice (some ⟨g, 0, none⟩) N c) N xs → o + vs.length ≤ xs.length →
    (w.setCells g o vs).ownsRow base e size (.slice (some ⟨g, 0, none⟩) N c) N (putAt xs o vs) := by
  intro vs
  induction vs with
  | nil => intro w xs o h _; exact h
  | cons v r ih =>
    intro w xs o h hl
    simp only [List.length_cons] at hl
    exact ih _ _ _ (ownN_store h (by omega)) (by rw [List.length_set]; omega)
theorem ownN_short {w : World} {base n m c size : Nat} {a : Option Addr} {e : TypeId} {xs : List Value} (h : w.ownsRow base e size (.slice a n c) n xs) (hm : m ≤ n) : w.ownsRow base e size (.slice a m c) m (xs.take (m * size)) := by
  obtain ⟨hl, hr⟩ := h
  have hms : m * size ≤ n * size := Nat.mul_le_mul_right _ hm
  refine ⟨by rw [List.length_take, hl]; omega, ?_⟩
  rcases hr with ⟨hv, h0⟩ | ⟨g, cap, cur, hv, hg, hh, h1, h2, h3, h4⟩
  · obtain rfl : m = 0 := by omega
    injection hv with h5 h6 h7
    subst h5 h7
    exact .inl ⟨rfl, rfl⟩
  · injection hv with h5 h6 h7
    subst h5 h7
    refine .inr ⟨g, c, cur, rfl, hg, hh, by omega, h2, h3, ?_⟩
    rw [← h4, List.take_take, Nat.min_eq_left hms]
theorem setCells_size (g : Nat) : ∀ (vs : List Value) (o : Nat) (w : World), (w.setCells g o vs).heap.size = w.heap.size := by
  intro vs
  induction vs with
  | nil => intro o w; rfl
  | cons v r ih => intro o w; rw [World.setCells, ih]; simp
theorem setCells_block (g : Nat) : ∀ (vs : List Value) (o : Nat) (w : World) (k : Nat), k ≠ g → (w.setCells g o vs).heap[k]? = w.heap[k]? := by
  intro vs
  induction vs with
  | nil => intro o w k _; rfl
  | cons v r ih => intro o w k hk; rw [World.setCells, ih _ _ _ hk]; exact Below.heap_setCell w ⟨g, o, none⟩ v k hk
theorem below_setCells0 {B g : Nat} {a : World} (hb : B ≤ g) : ∀ (vs : List Value) (o : Nat) (w : World), Below B a w → Below B a (w.setCells g o vs) := by
  intro vs
  induction vs with
  | nil => intro o w h; exact h
  | cons v r ih => intro o w h; exact ih _ _ (h.setCell (p := ⟨g, o, none⟩) hb v)
theorem own_ne {w : World} {b1 b2 s1 s2 n1 n2 : Nat} {e1 e2 : TypeId} {v1 v2 : Value} {x1 x2 : List Value} (h1 : w.ownsRow b1 e1 s1 v1 n1 x1) (h2 : w.ownsRow b2 e2 s2 v2 n2 x2) (hne : e1 ≠ e2) : ∀ k, v1.ownBlock = some k → v2.ownBlock ≠ some k := by
  intro k hk1 hk2
  rcases h1.2 with ⟨rfl, _⟩ | ⟨g1, c1, cur1, rfl, _, hh1, _⟩
  · cases hk1
  · rcases h2.2 with ⟨rfl, _⟩ | ⟨g2, c2, cur2, rfl, _, hh2, _⟩
    · cases hk2
    · injection hk1 with hk1
      injection hk2 with hk2
      have : g1 = g2 := hk1.trans hk2.symm
      subst this
      rw [hh1] at hh2
      injection hh2 with hh2
      injection hh2 with _ h3 _
      exact hne h3
/-- A row stays where another one of an unlike type is appended to. -/
theorem own_far2 {w w' : World} {b1 s1 n1 : Nat} {e1 : TypeId} {v1 v2 : Value} {x1 : List Value} (h1 : w.ownsRow b1 e1 s1 v1 n1 x1) (hf : FarOf w w' v2) (hne : ∀ k, v1.ownBlock = some k → v2.ownBlock ≠ some k) : w'.ownsRow b1 e1 s1 v1 n1 x1 := by
  obtain ⟨hl, hr⟩ := h1
  refine ⟨hl, ?_⟩
  rcases hr with h0 | ⟨g, cap, cur, rfl, hg, hh, r⟩
  · exact .inl h0
  · refine .inr ⟨g, cap, cur, rfl, hg, ?_, r⟩
    rw [hf.2 g ?_ (hne g rfl)]
    · exact hh
    · apply Classical.byContradiction
      intro hc
      rw [Array.getElem?_eq_none (by omega)] at hh
      cases hh
/-- The object's blocks were S, and are S' now: all other old blocks stay. -/
def Mvs (w w' : World) (S S' : Nat → Prop) : Prop := Below 0 w w' ∧ (∀ k, k < w.heap.size → ¬ S k → w'.heap[k]? = w.heap[k]?) ∧ (∀ k, S' k → S k ∨ w.heap.size ≤ k)
theorem Mvs.size {w w' : World} {S S' : Nat → Prop} (h : Mvs w w' S S') : w.heap.size ≤ w'.heap.size := h.1.size
theorem Mvs.below {w w' : World} (S : Nat → Prop) (h : Below w.heap.size w w') : Mvs w w' S S := ⟨h.mono (Nat.zero_le _), fun k hk _ => h.block k hk, fun k hk => .inl hk⟩
theorem Mvs.refl (w : World) (S : Nat → Prop) : Mvs w w S S := Mvs.below S (Below.refl _ _)
theorem Mvs.trans {w w1 w2 : World} {S S1 S2 : Nat → Prop} (h : Mvs w w1 S S1) (h1 : Mvs w1 w2 S1 S2) : Mvs w w2 S S2 := by
  refine ⟨h.1.trans h1.1, fun k hk hS => ?_, fun k hk => ?_⟩
  · have hS1 : ¬ S1 k := fun h2 => by
      rcases h.2.2 k h2 with h3 | h3
      · exact hS h3
      · omega
    exact (h1.2.1 k (by have := h.size; omega) hS1).trans (h.2.1 k hk hS)
  · rcases h1.2.2 k hk with h2 | h2
    · rcases h.2.2 k h2 with h3 | h3
      · exact .inl h3
      · exact .inr h3
    · exact .inr (by have := h.size; omega)
theorem Mvs.out {w w' : World} {S S' : Nat → Prop} (h : Mvs w w' S S') {k : Nat} (hk : k < w.heap.size) (hS : ¬ S k) : ¬ S' k := fun h2 => by
  rcases h.2.2 k h2 with h3 | h3
  · exact hS h3
  · omega
/-- What lies all from B on leaves what is below B. -/
theorem Mvs.low {w w' : World} {S S' : Nat → Prop} {B : Nat} (h : Mvs w w' S S') (hS : ∀ k, S k → B ≤ k) (hB : B ≤ w.heap.size) : Below B w w' :=
  ⟨h.1.os, h.1.tape, h.1.output, h.1.size, fun k hk => h.2.1 k (by omega) (fun h2 => by have := hS k h2; omega)⟩
theorem Mvs.low2 {w w' : World} {S S' : Nat → Prop} {B : Nat} (h : Mvs w w' S S') (hS : ∀ k, S k → B ≤ k) (hB : B ≤ w.heap.size) : ∀ k, S' k → B ≤ k := fun k hk => by
  rcases h.2.2 k hk with h2 | h2
  · exact hS k h2
  · omega
/-- A slice that lies apart from an object. -/
def Off (S : Nat → Prop) (a : Option Addr) : Prop := ∀ x, a = some x → ¬ S x.block
theorem Sl.mvs {w w' : World} {S S' : Nat → Prop} {a : Option Addr} {xs : List Value} (h : Sl w w.heap.size a xs) (hm : Mvs w w' S S') (ho : Off S a) : Sl w' w'.heap.size a xs := by
  rcases h with h | ⟨b, off, e, hlt, hc⟩
  · exact .inl h
  · refine .inr ⟨b, off, e, by have := hm.size; omega, fun j u hu => ?_⟩
    rw [← hc j u hu]
    exact World.cell?_of_block (a := ⟨b, off + j, none⟩) (hm.2.1 b hlt (ho _ e))
theorem Off.mvs {w w' : World} {S S' : Nat → Prop} {a : Option Addr} (ho : Off S a) (hl : ∀ x, a = some x → x.block < w.heap.size) (hm : Mvs w w' S S') : Off S' a := fun x hx => hm.out (hl x hx) (ho x hx)
end Go.Proofs.Ythghnpopcnnidaa
