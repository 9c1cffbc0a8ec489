/- Heavy as memory: its box and its row of tallies. -/
import Derived.Test.YthghnpopcnnidaaHvMath
import Derived.Test.YthghnpopcnnidaaObj
import Derived.Test.YthghnpopcnnidaaSt3
import Derived.Test.YthghnpopcnnidaaTaCl
namespace Go.Proofs.Ythghnpopcnnidaa
open Go.RowKit Vm
set_option linter.unusedVariables false
set_option linter.unusedSimpArgs false

theorem own_low {w : World} {base n c size : Nat} {a : Option Addr} {e : TypeId} {xs : List Value} (h : w.ownsRow base e size (.slice a n c) n xs) : ∀ x, a = some x → base ≤ x.block ∧ x.block < w.heap.size := by
  rintro x rfl
  rcases h.2 with ⟨h0, _⟩ | ⟨g, cap, cur, hv, hg, hh, _⟩
  · injection h0 with h0; cases h0
  · injection hv with h1 h2 h3
    injection h1 with h1
    subst h1
    exact ⟨hg, (show g < _ from by
      apply Classical.byContradiction
      intro hc
      rw [Array.getElem?_eq_none (by omega)] at hh
      cases hh)⟩
theorem own_box {w : World} {base n c size g : Nat} {a : Option Addr} {e t : TypeId} {xs : List Value} {cs : Array Value} (h : w.ownsRow base e size (.slice a n c) n xs) (hw : Whole w g t cs) (hne : e ≠ t) : ∀ x, a = some x → x.block ≠ g := by
  rintro x rfl he
  rcases h.2 with ⟨h0, _⟩ | ⟨g', cap, cur, hv, _, hh, _⟩
  · injection h0 with h0; cases h0
  · injection hv with h1 h2 h3
    injection h1 with h1
    subst h1
    simp only at he
    subst he
    unfold Whole at hw
    rw [hw] at hh
    injection hh with hh
    injection hh with _ h5 _
    exact hne h5.symm
theorem own_set {w : World} {base n c size g : Nat} {a : Option Addr} {e : TypeId} {xs : List Value} (h : w.ownsRow base e size (.slice a n c) n xs) (hne : ∀ x, a = some x → x.block ≠ g) (i : Nat) (u : Value) : (w.setCell ⟨g, i, none⟩ u).ownsRow base e size (.slice a n c) n xs := by
  obtain ⟨hl, hr⟩ := h
  rcases hr with h0 | ⟨g', cap, cur, hv, hg, hh, r⟩
  · exact ⟨hl, .inl h0⟩
  · refine ⟨hl, .inr ⟨g', cap, cur, hv, hg, ?_, r⟩⟩
    injection hv with h1 h2 h3
    subst h1
    exact (Below.heap_setCell w ⟨g, i, none⟩ u g' (hne _ rfl)).trans hh
theorem own_same {w w' : World} {base n c size : Nat} {a : Option Addr} {e : TypeId} {xs : List Value} (h : w.ownsRow base e size (.slice a n c) n xs) (hs : ∀ x, a = some x → w'.heap[x.block]? = w.heap[x.block]?) : w'.ownsRow base e size (.slice a n c) n xs := by
  obtain ⟨hl, hr⟩ := h
  rcases hr with h0 | ⟨g, cap, cur, hv, hg, hh, r⟩
  · exact ⟨hl, .inl h0⟩
  · refine ⟨hl, .inr ⟨g, cap, cur, hv, hg, ?_, r⟩⟩
    injection hv with h1 h2 h3
    subst h1
    exact (hs _ rfl).trans hh
/-- Heavy at block g. -/
structure HvW (w : World) (g : Nat) (H : Hv) (a : Option Addr) (c : Nat) : Prop where
  box : Whole w g 52 #[.int .i64 (H.m : Int), .int .i64 (H.s : Int), .slice a H.L.length c]
  row : w.ownsRow 0 45 3 (.slice a H.L.length c) H.L.length (taCells H.L)
def HF (g : Nat) (a : Option Addr) : Nat → Prop := fun k => k = g ∨ (∃ x, a = some x ∧ x.block = k)
theorem HvW.keep {w w' : World} {g : Nat} {H : Hv} {a : Option Addr} {c : Nat} (h : HvW w g H a c) (hb : Below w.heap.size w w') : HvW w' g H a c := ⟨h.box.keep hb, own_keep h.row hb⟩
theorem HvW.lt {w : World} {g : Nat} {H : Hv} {a : Option Addr} {c : Nat} (h : HvW w g H a c) : g < w.heap.size := h.box.lt
theorem HvW.neA {w : World} {g : Nat} {H : Hv} {a : Option Addr} {c : Nat} (h : HvW w g H a c) : ∀ x, a = some x → x.block ≠ g := own_box h.row h.box (by decide)
theorem HvW.live {w : World} {g : Nat} {H : Hv} {a : Option Addr} {c : Nat} (h : HvW w g H a c) : ∀ k, HF g a k → k < w.heap.size := by
  rintro k (rfl | ⟨x, hx, rfl⟩)
  · exact h.lt
  · exact (own_low h.row x hx).2
theorem HvW.three {w : World} {g : Nat} {H : Hv} {a : Option Addr} {c : Nat} (h : HvW w g H a c) : w.cell? ⟨g, 0, none⟩ = some (.int .i64 (H.m : Int)) ∧ w.cell? ⟨g, 1, none⟩ = some (.int .i64 (H.s : Int)) ∧ w.cell? ⟨g, 2, none⟩ = some (.slice a H.L.length c) ∧ (∀ j, w.frozen? ⟨g, j, none⟩ = false) :=
  ⟨h.box.cell 0, h.box.cell 1, h.box.cell 2, h.box.frozen⟩
theorem HvW.setS {w : World} {g : Nat} {H : Hv} {a : Option Addr} {c : Nat} (h : HvW w g H a c) (s : Nat) : HvW (w.setCell ⟨g, 1, none⟩ (.int .i64 (s : Int))) g { H with s := s } a c :=
  ⟨h.box.set 1 _, own_set h.row h.neA 1 _⟩
/-- The row is another one. -/
theorem HvW.setL {w w' : World} {g : Nat} {H : Hv} {a a' : Option Addr} {c c' : Nat} {D : List Ta} (h : HvW w g H a c) (hg : w'.heap[g]? = w.heap[g]?) (ho : w'.ownsRow 0 45 3 (.slice a' D.length c') D.length (taCells D)) :
    HvW (w'.setCell ⟨g, 2, none⟩ (.slice a' D.length c')) g { H with L := D } a' c' :=
  ⟨Whole.set (show Whole w' g _ _ from hg.trans h.box) 2 _, own_set ho (own_box ho (show Whole w' g _ _ from hg.trans h.box) (by decide)) 2 _⟩
theorem ta_store3 {w : World} {base N g c k : Nat} {l : List Ta} (h : w.ownsRow base 45 3 (.slice (some ⟨g, 0, none⟩) N c) N (taCells l)) (hk : k < l.length) (x : Ta) :
    (((w.setCell ⟨g, k * 3, none⟩ (.int .i64 x.k)).setCell ⟨g, k * 3 + 1, none⟩ (.int .i64 x.n)).setCell ⟨g, k * 3 + 2, none⟩ (.int .i64 x.o)).ownsRow base 45 3 (.slice (some ⟨g, 0, none⟩) N c) N (taCells (l.set k x)) := by
  have hL : (taCells l).length = l.length * 3 := taCells_length l
  have h0 := ownN_store (u := .int .i64 x.k) h (j := k * 3) (by omega)
  have h1 := ownN_store (u := .int .i64 x.n) h0 (j := k * 3 + 1) (by rw [List.length_set]; omega)
  have h2 := ownN_store (u := .int .i64 x.o) h1 (j := k * 3 + 2) (by rw [List.length_set, List.length_set]; omega)
  have e0 := taCells_set0 l k x.k hk
  rw [Nat.add_zero] at e0
  rw [e0, taCells_set1 _ k x.n (by simpa using hk), taCells_set2 _ k x.o (by simpa using hk)] at h2
  have e5 : ∀ y z : List Ta, y = z → taCells y = taCells z := fun y z h => by rw [h]
  rw [e5 _ (l.set k x) (by simp [List.getD, hk])] at h2
  exact h2
theorem ta_store1 {w : World} {base N g c k : Nat} {l : List Ta} (h : w.ownsRow base 45 3 (.slice (some ⟨g, 0, none⟩) N c) N (taCells l)) (hk : k < l.length) (v : Int) :
    (w.setCell ⟨g, k * 3 + 1, none⟩ (.int .i64 v)).ownsRow base 45 3 (.slice (some ⟨g, 0, none⟩) N c) N (taCells (l.set k { l.getD k ta0 with n := v })) := by
  have hL : (taCells l).length = l.length * 3 := taCells_length l
  have h2 := ownN_store (u := .int .i64 v) h (j := k * 3 + 1) (by omega)
  rwa [taCells_set1 _ k v hk] at h2
theorem Mvs.setG {w w' : World} {g : Nat} {S S' : Nat → Prop} (h : Mvs w w' S S') (hS : S g) (j : Nat) (u : Value) : Mvs w (w'.setCell ⟨g, j, none⟩ u) S S' :=
  ⟨h.1.setCell (p := ⟨g, j, none⟩) (Nat.zero_le _) u, fun k hk hn => (Below.heap_setCell w' ⟨g, j, none⟩ u k (show k ≠ g from fun e => hn (e ▸ hS))).trans (h.2.1 k hk hn), h.2.2⟩
/-- One tally is another one: a store of its number; of all of it. -/
theorem HvW.inc {w : World} {g ga : Nat} {H : Hv} {c : Nat} (h : HvW w g H (some ⟨ga, 0, none⟩) c) (k : Nat) (v : Int) (hk : k < H.L.length) : HvW (w.setCell ⟨ga, k * 3 + 1, none⟩ (.int .i64 v)) g { H with L := H.L.set k { H.L.getD k ta0 with n := v } } (some ⟨ga, 0, none⟩) c := by
  have hg : ga ≠ g := h.neA _ rfl
  have hl : (H.L.set k { H.L.getD k ta0 with n := v }).length = H.L.length := by simp
  refine ⟨?_, ?_⟩
  · have := h.box.far ga (k * 3 + 1) (.int .i64 v) (Ne.symm hg)
    simp only [hl]
    exact this
  · have := ta_store1 h.row hk v
    simp only [hl]
    exact this
theorem HvW.put {w : World} {g ga : Nat} {H : Hv} {c : Nat} (h : HvW w g H (some ⟨ga, 0, none⟩) c) (k : Nat) (x : Ta) (hk : k < H.L.length) : HvW (((w.setCell ⟨ga, k * 3, none⟩ (.int .i64 x.k)).setCell ⟨ga, k * 3 + 1, none⟩ (.int .i64 x.n)).setCell ⟨ga, k * 3 + 2, none⟩ (.int .i64 x.o)) g { H with L := H.L.set k x } (some ⟨ga, 0, none⟩) c := by
  have hg : ga ≠ g := h.neA _ rfl
  have hl : (H.L.set k x).length = H.L.length := by simp
  refine ⟨?_, ?_⟩
  · have := ((h.box.far ga (k * 3) (.int .i64 x.k) (Ne.symm hg)).far ga (k * 3 + 1) (.int .i64 x.n) (Ne.symm hg)).far ga (k * 3 + 2) (.int .i64 x.o) (Ne.symm hg)
    simp only [hl]
    exact this
  · have := ta_store3 h.row hk x
    simp only [hl]
    exact this
end Go.Proofs.Ythghnpopcnnidaa
