/- A group as memory. -/
import Derived.Test.YtocmhmfaehnliaaGrMath
import Derived.Test.YtocmhmfaehnliaaMbCl
import Derived.Test.YtocmhmfaehnliaaObj
import Derived.Test.YtocmhmfaehnliaaSt3
namespace Go.Proofs.Ytocmhmfaehnliaa
open Go.RowKit Vm As
set_option linter.unusedVariables false
set_option linter.unusedSimpArgs false

def ByP (p : Mb → Bool) (l : List Mb) (j : Nat) : Prop := p (l.getD j mb0) = true
theorem byP_not {p : Mb → Bool} {l : List Mb} {j : Nat} (h : ¬ ByP p l j) : p (l.getD j mb0) = false := by unfold ByP at h; simpa using h
theorem keepP_snoc_no {p : Mb → Bool} {l : List Mb} {x : Mb} (h : p x = true) : keepP p (l ++ [x]) = keepP p l := by
  unfold keepP; rw [List.filter_append]; simp [h]
theorem keepP_snoc_yes {p : Mb → Bool} {l : List Mb} {x : Mb} (h : p x = false) : keepP p (l ++ [x]) = keepP p l ++ [x] := by
  unfold keepP; rw [List.filter_append]; simp [h]
theorem keepP_none {p : Mb → Bool} {l : List Mb} (h : ∀ j, j < l.length → ¬ ByP p l j) : keepP p l = l := by
  unfold keepP
  rw [List.filter_eq_self]
  intro x hx
  obtain ⟨i, hi, rfl⟩ := List.mem_iff_getElem.1 hx
  have := byP_not (h i hi)
  rw [show l.getD i mb0 = l[i] from by simp [List.getD, hi]] at this
  simp [this]
/-- How far a deletion is. -/
def DelM (p : Mb → Bool) (l X : List Mb) (N i j : Nat) : Prop := X.length = N ∧ X.take i = keepP p (l.take j) ∧ ∀ q, j ≤ q → q < N → X.getD q mb0 = l.getD q mb0
theorem delM_start {p : Mb → Bool} {l : List Mb} {N k : Nat} (hN : l.length = N) (hk : k < N) (h1 : ∀ q, q < k → ¬ ByP p l q) (h2 : ByP p l k) : DelM p l l N k (k + 1) := by
  refine ⟨hN, ?_, fun _ _ _ => rfl⟩
  rw [take_get l mb0 k (by omega), keepP_snoc_no h2, keepP_none]
  intro q hq
  rw [List.length_take] at hq
  unfold ByP
  rw [show (l.take k).getD q mb0 = l.getD q mb0 from by simp [List.getD, List.getElem?_take, show q < k by omega]]
  exact h1 q (by omega)
theorem delM_drop {p : Mb → Bool} {l X : List Mb} {N i j : Nat} (h : DelM p l X N i j) (hN : l.length = N) (hj : j < N) (hf : ByP p l j) : DelM p l X N i (j + 1) :=
  ⟨h.1, by rw [take_get l mb0 j (by omega), keepP_snoc_no hf]; exact h.2.1, fun q h1 h2 => h.2.2 q (by omega) h2⟩
theorem delM_keep {p : Mb → Bool} {l X : List Mb} {N i j : Nat} (h : DelM p l X N i j) (hN : l.length = N) (hj : j < N) (hij : i < j) (hf : ¬ ByP p l j) : DelM p l (X.set i (l.getD j mb0)) N (i + 1) (j + 1) := by
  obtain ⟨h1, h2, h3⟩ := h
  refine ⟨by simp [h1], ?_, fun q h4 h5 => ?_⟩
  · rw [take_get l mb0 j (by omega), keepP_snoc_yes (byP_not hf), ← h2, take_get _ mb0 i (by simp [h1]; omega)]
    have hil : i < X.length := by omega
    rw [show (X.set i (l.getD j mb0)).getD i mb0 = l.getD j mb0 from by simp [List.getD, hil]]
    rw [List.take_set_of_le (by omega)]
  · rw [show (X.set i (l.getD j mb0)).getD q mb0 = X.getD q mb0 from by simp [List.getD, List.getElem?_set, show i ≠ q by omega]]
    exact h3 q (by omega) h5
theorem mb_store3 {w : World} {base N g c k : Nat} {l : List Mb} (h : w.ownsRow base 49 3 (.slice (some ⟨g, 0, none⟩) N c) N (mbCells l)) (hk : k < l.length) (x : Mb) :
    (((w.setCell ⟨g, k * 3, none⟩ (.int .i64 x.i)).setCell ⟨g, k * 3 + 1, none⟩ (.int .i64 x.k)).setCell ⟨g, k * 3 + 2, none⟩ (.int .i64 x.d)).ownsRow base 49 3 (.slice (some ⟨g, 0, none⟩) N c) N (mbCells (l.set k x)) := by
  have hL : (mbCells l).length = l.length * 3 := mbCells_length l
  have h0 := ownN_store (u := .int .i64 x.i) h (j := k * 3) (by omega)
  have h1 := ownN_store (u := .int .i64 x.k) h0 (j := k * 3 + 1) (by rw [List.length_set]; omega)
  have h2 := ownN_store (u := .int .i64 x.d) h1 (j := k * 3 + 2) (by rw [List.length_set, List.length_set]; omega)
  have e0 := mbCells_set0 l k x.i hk
  rw [Nat.add_zero] at e0
  rw [e0, mbCells_set1 _ k x.k (by simpa using hk), mbCells_set2 _ k x.d (by simpa using hk)] at h2
  have e5 : ∀ y z : List Mb, y = z → mbCells y = mbCells z := fun y z h => by rw [h]
  rw [e5 _ (l.set k x) (by simp [List.getD, hk])] at h2
  exact h2
theorem mb_store2 {w : World} {base N g c k : Nat} {l : List Mb} (h : w.ownsRow base 49 3 (.slice (some ⟨g, 0, none⟩) N c) N (mbCells l)) (hk : k < l.length) (v : Int) :
    (w.setCell ⟨g, k * 3 + 2, none⟩ (.int .i64 v)).ownsRow base 49 3 (.slice (some ⟨g, 0, none⟩) N c) N (mbCells (l.set k { l.getD k mb0 with d := v })) := by
  have hL : (mbCells l).length = l.length * 3 := mbCells_length l
  have h2 := ownN_store (u := .int .i64 v) h (j := k * 3 + 2) (by omega)
  rwa [mbCells_set2 _ k v hk] at h2
/-- All old blocks but the row's own stay. -/
def Mva (w w' : World) (a : Option Addr) : Prop := ∀ k, k < w.heap.size → (∀ x, a = some x → x.block ≠ k) → w'.heap[k]? = w.heap[k]?
theorem Mva.below {w w' : World} (a : Option Addr) (h : Below w.heap.size w w') : Mva w w' a := fun k hk _ => h.block k hk
theorem Mva.trans {w w1 w2 : World} {a : Option Addr} (h : Mva w w1 a) (h1 : Mva w1 w2 a) (hz : w.heap.size ≤ w1.heap.size) : Mva w w2 a := fun k hk hx => (h1 k (by omega) hx).trans (h k hk hx)
theorem Mva.set {w w' : World} {g : Nat} (h : Mva w w' (some ⟨g, 0, none⟩)) (j : Nat) (u : Value) : Mva w (w'.setCell ⟨g, j, none⟩ u) (some ⟨g, 0, none⟩) := fun k hk hx => by
  have hne : g ≠ k := hx _ rfl
  exact (Below.heap_setCell w' ⟨g, j, none⟩ u k (show k ≠ g by omega)).trans (h k hk hx)
theorem Mva.setCells {w w' : World} {g : Nat} (h : Mva w w' (some ⟨g, 0, none⟩)) (vs : List Value) (o : Nat) : Mva w (w'.setCells g o vs) (some ⟨g, 0, none⟩) := fun k hk hx => by
  have hne : g ≠ k := hx _ rfl
  exact (setCells_block g vs o w' k (by omega)).trans (h k hk hx)
def MbDel (base : Nat) (a : Option Addr) (D : List Mb) (w : World) (e : Ending) (w' : World) : Prop := ∃ c', e = .returned (.slice a D.length c') ∧ w'.ownsRow base 49 3 (.slice a D.length c') D.length (mbCells D) ∧ Below base w w' ∧ Mva w w' a
/-- A group at block g: its box, its members' row, its owners' row. -/
structure GrW (w : World) (g : Nat) (G : Gr) (a : Option Addr) (c : Nat) (b : Option Addr) (d : Nat) : Prop where
  box : Whole w g 66 #[.bool G.st, .int .i64 G.g, .int .i64 G.n, .int .i64 G.t, .slice a G.L.length c, .slice b G.O.length d]
  rowL : w.ownsRow 0 49 3 (.slice a G.L.length c) G.L.length (mbCells G.L)
  rowO : w.ownsRow 0 3 1 (.slice b G.O.length d) G.O.length (i64s G.O)
def SF (g : Nat) (a b : Option Addr) : Nat → Prop := fun k => k = g ∨ (∃ x, a = some x ∧ x.block = k) ∨ (∃ x, b = some x ∧ x.block = k)
theorem own_low {w : World} {base n c size : Nat} {a : Option Addr} {e : TypeId} {xs : List Value} (h : w.ownsRow base e size (.slice a n c) n xs) : ∀ x, a = some x → base ≤ x.block ∧ x.block < w.heap.size := by
  rintro x rfl
  rcases h.2 with ⟨h0, _⟩ | ⟨g, cap, cur, hv, hg, hh, _⟩
  · injection h0 with h0; cases h0
  · injection hv with h1 h2 h3
    injection h1 with h1
    subst h1
    exact ⟨hg, (show g < _ from by
      apply Classical.byContradiction
      intro hc
      rw [Array.getElem?_eq_none (by omega)] at hh
      cases hh)⟩
theorem own_box {w : World} {base n c size g : Nat} {a : Option Addr} {e t : TypeId} {xs : List Value} {cs : Array Value} (h : w.ownsRow base e size (.slice a n c) n xs) (hw : Whole w g t cs) (hne : e ≠ t) : ∀ x, a = some x → x.block ≠ g := by
  rintro x rfl he
  rcases h.2 with ⟨h0, _⟩ | ⟨g', cap, cur, hv, _, hh, _⟩
  · injection h0 with h0; cases h0
  · injection hv with h1 h2 h3
    injection h1 with h1
    subst h1
    simp only at he
    subst he
    unfold Whole at hw
    rw [hw] at hh
    injection hh with hh
    injection hh with _ h5 _
    exact hne h5.symm
theorem own_set {w : World} {base n c size g : Nat} {a : Option Addr} {e : TypeId} {xs : List Value} (h : w.ownsRow base e size (.slice a n c) n xs) (hne : ∀ x, a = some x → x.block ≠ g) (i : Nat) (u : Value) : (w.setCell ⟨g, i, none⟩ u).ownsRow base e size (.slice a n c) n xs := by
  obtain ⟨hl, hr⟩ := h
  rcases hr with h0 | ⟨g', cap, cur, hv, hg, hh, r⟩
  · exact ⟨hl, .inl h0⟩
  · refine ⟨hl, .inr ⟨g', cap, cur, hv, hg, ?_, r⟩⟩
    injection hv with h1 h2 h3
    subst h1
    exact (Below.heap_setCell w ⟨g, i, none⟩ u g' (hne _ rfl)).trans hh
theorem GrW.keep {w w' : World} {g : Nat} {G : Gr} {a : Option Addr} {c : Nat} {b : Option Addr} {d : Nat} (h : GrW w g G a c b d) (hb : Below w.heap.size w w') : GrW w' g G a c b d := ⟨h.box.keep hb, own_keep h.rowL hb, own_keep h.rowO hb⟩
theorem GrW.lt {w : World} {g : Nat} {G : Gr} {a : Option Addr} {c : Nat} {b : Option Addr} {d : Nat} (h : GrW w g G a c b d) : g < w.heap.size := h.box.lt
theorem GrW.neA {w : World} {g : Nat} {G : Gr} {a : Option Addr} {c : Nat} {b : Option Addr} {d : Nat} (h : GrW w g G a c b d) : ∀ x, a = some x → x.block ≠ g := own_box h.rowL h.box (by decide)
theorem GrW.neB {w : World} {g : Nat} {G : Gr} {a : Option Addr} {c : Nat} {b : Option Addr} {d : Nat} (h : GrW w g G a c b d) : ∀ x, b = some x → x.block ≠ g := own_box h.rowO h.box (by decide)
theorem GrW.neAB {w : World} {g : Nat} {G : Gr} {a : Option Addr} {c : Nat} {b : Option Addr} {d : Nat} (h : GrW w g G a c b d) : ∀ x y, a = some x → b = some y → x.block ≠ y.block := by
  rintro x y rfl rfl he
  have h1 := own_ne h.rowL h.rowO (by decide) x.block rfl
  exact h1 (by rw [he]; rfl)
theorem GrW.live {w : World} {g : Nat} {G : Gr} {a : Option Addr} {c : Nat} {b : Option Addr} {d : Nat} (h : GrW w g G a c b d) : ∀ k, SF g a b k → k < w.heap.size := by
  rintro k (rfl | ⟨x, hx, rfl⟩ | ⟨x, hx, rfl⟩)
  · exact h.lt
  · exact (own_low h.rowL x hx).2
  · exact (own_low h.rowO x hx).2
theorem own_same {w w' : World} {base n c size : Nat} {a : Option Addr} {e : TypeId} {xs : List Value} (h : w.ownsRow base e size (.slice a n c) n xs) (hs : ∀ x, a = some x → w'.heap[x.block]? = w.heap[x.block]?) : w'.ownsRow base e size (.slice a n c) n xs := by
  obtain ⟨hl, hr⟩ := h
  rcases hr with h0 | ⟨g, cap, cur, hv, hg, hh, r⟩
  · exact ⟨hl, .inl h0⟩
  · refine ⟨hl, .inr ⟨g, cap, cur, hv, hg, ?_, r⟩⟩
    injection hv with h1 h2 h3
    subst h1
    exact (hs _ rfl).trans hh
theorem GrW.six {w : World} {g : Nat} {G : Gr} {a : Option Addr} {c : Nat} {b : Option Addr} {d : Nat} (h : GrW w g G a c b d) : w.cell? ⟨g, 0, none⟩ = some (.bool G.st) ∧ w.cell? ⟨g, 1, none⟩ = some (.int .i64 G.g) ∧ w.cell? ⟨g, 2, none⟩ = some (.int .i64 G.n) ∧ w.cell? ⟨g, 3, none⟩ = some (.int .i64 G.t) ∧ w.cell? ⟨g, 4, none⟩ = some (.slice a G.L.length c) ∧ w.cell? ⟨g, 5, none⟩ = some (.slice b G.O.length d) ∧ (∀ j, w.frozen? ⟨g, j, none⟩ = false) :=
  ⟨h.box.cell 0, h.box.cell 1, h.box.cell 2, h.box.cell 3, h.box.cell 4, h.box.cell 5, h.box.frozen⟩
theorem GrW.setI {w : World} {g : Nat} {G : Gr} {a : Option Addr} {c : Nat} {b : Option Addr} {d : Nat} (h : GrW w g G a c b d) (v : Int) : GrW (w.setCell ⟨g, 1, none⟩ (.int .i64 v)) g { G with g := v } a c b d :=
  ⟨h.box.set 1 _, own_set h.rowL h.neA 1 _, own_set h.rowO h.neB 1 _⟩
theorem GrW.setN {w : World} {g : Nat} {G : Gr} {a : Option Addr} {c : Nat} {b : Option Addr} {d : Nat} (h : GrW w g G a c b d) (v : Int) : GrW (w.setCell ⟨g, 2, none⟩ (.int .i64 v)) g { G with n := v } a c b d :=
  ⟨h.box.set 2 _, own_set h.rowL h.neA 2 _, own_set h.rowO h.neB 2 _⟩
theorem GrW.setT {w : World} {g : Nat} {G : Gr} {a : Option Addr} {c : Nat} {b : Option Addr} {d : Nat} (h : GrW w g G a c b d) (v : Int) : GrW (w.setCell ⟨g, 3, none⟩ (.int .i64 v)) g { G with t := v } a c b d :=
  ⟨h.box.set 3 _, own_set h.rowL h.neA 3 _, own_set h.rowO h.neB 3 _⟩
/-- The members' row is another one, that lies where no block of the group's other parts does. -/
theorem GrW.setL {w w' : World} {g : Nat} {G : Gr} {a a' : Option Addr} {c c' : Nat} {b : Option Addr} {d : Nat} {D : List Mb} (h : GrW w g G a c b d) (hg : w'.heap[g]? = w.heap[g]?) (hB : ∀ x, b = some x → w'.heap[x.block]? = w.heap[x.block]?) (ho : w'.ownsRow 0 49 3 (.slice a' D.length c') D.length (mbCells D)) :
    GrW (w'.setCell ⟨g, 4, none⟩ (.slice a' D.length c')) g { G with L := D } a' c' b d :=
  ⟨Whole.set (show Whole w' g _ _ from hg.trans h.box) 4 _, own_set ho (own_box ho (show Whole w' g _ _ from hg.trans h.box) (by decide)) 4 _, own_set (own_same h.rowO hB) h.neB 4 _⟩
theorem GrW.setO {w w' : World} {g : Nat} {G : Gr} {a : Option Addr} {c : Nat} {b b' : Option Addr} {d d' : Nat} {D : List Int} (h : GrW w g G a c b d) (hg : w'.heap[g]? = w.heap[g]?) (hA : ∀ x, a = some x → w'.heap[x.block]? = w.heap[x.block]?) (ho : w'.ownsRow 0 3 1 (.slice b' D.length d') D.length (i64s D)) :
    GrW (w'.setCell ⟨g, 5, none⟩ (.slice b' D.length d')) g { G with O := D } a c b' d' :=
  ⟨Whole.set (show Whole w' g _ _ from hg.trans h.box) 5 _, own_set (own_same h.rowL hA) h.neA 5 _, own_set ho (own_box ho (show Whole w' g _ _ from hg.trans h.box) (by decide)) 5 _⟩
theorem Mvs.setG {w w' : World} {g : Nat} {S S' : Nat → Prop} (h : Mvs w w' S S') (hS : S g) (j : Nat) (u : Value) : Mvs w (w'.setCell ⟨g, j, none⟩ u) S S' :=
  ⟨h.1.setCell (p := ⟨g, j, none⟩) (Nat.zero_le _) u, fun k hk hn => (Below.heap_setCell w' ⟨g, j, none⟩ u k (show k ≠ g from fun e => hn (e ▸ hS))).trans (h.2.1 k hk hn), h.2.2⟩
theorem Mva.mvs {w w' : World} {g : Nat} {a b : Option Addr} (h : Mva w w' a) (hz : Below 0 w w') : Mvs w w' (SF g a b) (SF g a b) :=
  ⟨hz, fun k hk hn => h k hk (fun x hx he => hn (.inr (.inl ⟨x, hx, he⟩))), fun k hk => .inl hk⟩
end Go.Proofs.Ytocmhmfaehnliaa
