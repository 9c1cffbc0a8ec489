/- Coop as memory: its box, and three rows of ints, apart from one another. -/
import Derived.Test.YtafibgekikjlhaaCoMath
import Derived.Test.YtafibgekikjlhaaObj
import Derived.Test.YtafibgekikjlhaaSt3
import Derived.Test.YtafibgekikjlhaaAsMem
namespace Go.Proofs.Ytafibgekikjlhaa
open Go.RowKit Vm As
set_option linter.unusedVariables false
set_option linter.unusedSimpArgs false

theorem own_low {w : World} {base n c size : Nat} {a : Option Addr} {e : TypeId} {xs : List Value} (h : w.ownsRow base e size (.slice a n c) n xs) : ∀ x, a = some x → base ≤ x.block ∧ x.block < w.heap.size := by
  rintro x rfl
  rcases h.2 with ⟨h0, _⟩ | ⟨g, cap, cur, hv, hg, hh, _⟩
  · injection h0 with h0; cases h0
  · injection hv with h1 h2 h3
    injection h1 with h1
    subst h1
    exact ⟨hg, (show g < _ from by
      apply Classical.byContradiction
      intro hc
      rw [Array.getElem?_eq_none (by omega)] at hh
      cases hh)⟩
theorem own_box {w : World} {base n c size g : Nat} {a : Option Addr} {e t : TypeId} {xs : List Value} {cs : Array Value} (h : w.ownsRow base e size (.slice a n c) n xs) (hw : Whole w g t cs) (hne : e ≠ t) : ∀ x, a = some x → x.block ≠ g := by
  rintro x rfl he
  rcases h.2 with ⟨h0, _⟩ | ⟨g', cap, cur, hv, _, hh, _⟩
  · injection h0 with h0; cases h0
  · injection hv with h1 h2 h3
    injection h1 with h1
    subst h1
    simp only at he
    subst he
    unfold Whole at hw
    rw [hw] at hh
    injection hh with hh
    injection hh with _ h5 _
    exact hne h5.symm
theorem own_set {w : World} {base n c size g : Nat} {a : Option Addr} {e : TypeId} {xs : List Value} (h : w.ownsRow base e size (.slice a n c) n xs) (hne : ∀ x, a = some x → x.block ≠ g) (i : Nat) (u : Value) : (w.setCell ⟨g, i, none⟩ u).ownsRow base e size (.slice a n c) n xs := by
  obtain ⟨hl, hr⟩ := h
  rcases hr with h0 | ⟨g', cap, cur, hv, hg, hh, r⟩
  · exact ⟨hl, .inl h0⟩
  · refine ⟨hl, .inr ⟨g', cap, cur, hv, hg, ?_, r⟩⟩
    injection hv with h1 h2 h3
    subst h1
    exact (Below.heap_setCell w ⟨g, i, none⟩ u g' (hne _ rfl)).trans hh
theorem own_same {w w' : World} {base n c size : Nat} {a : Option Addr} {e : TypeId} {xs : List Value} (h : w.ownsRow base e size (.slice a n c) n xs) (hs : ∀ x, a = some x → w'.heap[x.block]? = w.heap[x.block]?) : w'.ownsRow base e size (.slice a n c) n xs := by
  obtain ⟨hl, hr⟩ := h
  rcases hr with h0 | ⟨g, cap, cur, hv, hg, hh, r⟩
  · exact ⟨hl, .inl h0⟩
  · refine ⟨hl, .inr ⟨g, cap, cur, hv, hg, ?_, r⟩⟩
    injection hv with h1 h2 h3
    subst h1
    exact (hs _ rfl).trans hh
def Apart2 (a b : Option Addr) : Prop := ∀ x y, a = some x → b = some y → x.block ≠ y.block
/-- Coop at block g: who is a member, who has what, who is to have what. -/
structure CoW (w : World) (g : Nat) (C : Co) (a : Option Addr) (ca : Nat) (b : Option Addr) (cb : Nat) (d : Option Addr) (cd : Nat) : Prop where
  box : Whole w g 65 #[.int .i64 C.g, .slice a C.M.length ca, .slice b C.H.length cb, .slice d C.W.length cd]
  rowM : w.ownsRow 0 3 1 (.slice a C.M.length ca) C.M.length (i64s C.M)
  rowH : w.ownsRow 0 3 1 (.slice b C.H.length cb) C.H.length (i64s C.H)
  rowW : w.ownsRow 0 3 1 (.slice d C.W.length cd) C.W.length (i64s C.W)
  mh : Apart2 a b
  mw : Apart2 a d
  hw : Apart2 b d
def CF (g : Nat) (a b d : Option Addr) : Nat → Prop := fun k => k = g ∨ (∃ x, a = some x ∧ x.block = k) ∨ (∃ x, b = some x ∧ x.block = k) ∨ (∃ x, d = some x ∧ x.block = k)
theorem CoW.keep {w w' : World} {g : Nat} {C : Co} {a : Option Addr} {ca : Nat} {b : Option Addr} {cb : Nat} {d : Option Addr} {cd : Nat} (h : CoW w g C a ca b cb d cd) (hb : Below w.heap.size w w') : CoW w' g C a ca b cb d cd := ⟨h.box.keep hb, own_keep h.rowM hb, own_keep h.rowH hb, own_keep h.rowW hb, h.mh, h.mw, h.hw⟩
theorem CoW.lt {w : World} {g : Nat} {C : Co} {a : Option Addr} {ca : Nat} {b : Option Addr} {cb : Nat} {d : Option Addr} {cd : Nat} (h : CoW w g C a ca b cb d cd) : g < w.heap.size := h.box.lt
theorem CoW.neM {w : World} {g : Nat} {C : Co} {a : Option Addr} {ca : Nat} {b : Option Addr} {cb : Nat} {d : Option Addr} {cd : Nat} (h : CoW w g C a ca b cb d cd) : ∀ x, a = some x → x.block ≠ g := own_box h.rowM h.box (by decide)
theorem CoW.neH {w : World} {g : Nat} {C : Co} {a : Option Addr} {ca : Nat} {b : Option Addr} {cb : Nat} {d : Option Addr} {cd : Nat} (h : CoW w g C a ca b cb d cd) : ∀ x, b = some x → x.block ≠ g := own_box h.rowH h.box (by decide)
theorem CoW.neW {w : World} {g : Nat} {C : Co} {a : Option Addr} {ca : Nat} {b : Option Addr} {cb : Nat} {d : Option Addr} {cd : Nat} (h : CoW w g C a ca b cb d cd) : ∀ x, d = some x → x.block ≠ g := own_box h.rowW h.box (by decide)
theorem CoW.live {w : World} {g : Nat} {C : Co} {a : Option Addr} {ca : Nat} {b : Option Addr} {cb : Nat} {d : Option Addr} {cd : Nat} (h : CoW w g C a ca b cb d cd) : ∀ k, CF g a b d k → k < w.heap.size := by
  rintro k (rfl | ⟨x, hx, rfl⟩ | ⟨x, hx, rfl⟩ | ⟨x, hx, rfl⟩)
  · exact h.lt
  · exact (own_low h.rowM x hx).2
  · exact (own_low h.rowH x hx).2
  · exact (own_low h.rowW x hx).2
theorem CoW.four {w : World} {g : Nat} {C : Co} {a : Option Addr} {ca : Nat} {b : Option Addr} {cb : Nat} {d : Option Addr} {cd : Nat} (h : CoW w g C a ca b cb d cd) : w.cell? ⟨g, 0, none⟩ = some (.int .i64 C.g) ∧ w.cell? ⟨g, 1, none⟩ = some (.slice a C.M.length ca) ∧ w.cell? ⟨g, 2, none⟩ = some (.slice b C.H.length cb) ∧ w.cell? ⟨g, 3, none⟩ = some (.slice d C.W.length cd) ∧ (∀ j, w.frozen? ⟨g, j, none⟩ = false) :=
  ⟨h.box.cell 0, h.box.cell 1, h.box.cell 2, h.box.cell 3, h.box.frozen⟩
theorem CoW.setG {w : World} {g : Nat} {C : Co} {a : Option Addr} {ca : Nat} {b : Option Addr} {cb : Nat} {d : Option Addr} {cd : Nat} (h : CoW w g C a ca b cb d cd) (v : Int) : CoW (w.setCell ⟨g, 0, none⟩ (.int .i64 v)) g { C with g := v } a ca b cb d cd :=
  ⟨h.box.set 0 _, own_set h.rowM h.neM 0 _, own_set h.rowH h.neH 0 _, own_set h.rowW h.neW 0 _, h.mh, h.mw, h.hw⟩
/-- One element of who has what is another one. -/
theorem CoW.setH {w : World} {g gb : Nat} {C : Co} {a : Option Addr} {ca : Nat} {cb : Nat} {d : Option Addr} {cd : Nat} (h : CoW w g C a ca (some ⟨gb, 0, none⟩) cb d cd) (p : Nat) (v : Int) (hp : p < C.H.length) : CoW (w.setCell ⟨gb, p, none⟩ (.int .i64 v)) g { C with H := C.H.set p v } a ca (some ⟨gb, 0, none⟩) cb d cd := by
  have hg : gb ≠ g := h.neH _ rfl
  have hl : (C.H.set p v).length = C.H.length := by simp
  refine ⟨?_, own_set h.rowM (fun x hx => h.mh x _ hx rfl) p _, ?_, own_set h.rowW (fun x hx e => h.hw _ x rfl hx e.symm) p _, h.mh, h.mw, h.hw⟩
  · have := h.box.far gb p (.int .i64 v) (Ne.symm hg)
    simp only [hl]
    exact this
  · have := ownN_store (u := .int .i64 v) h.rowH (j := p) (by rw [i64s_len]; exact hp)
    simp only [hl]
    rw [i64s_set]
    exact this
/-- The rows of who is to have what, and of the members, are other ones. -/
theorem CoW.setW {w w5 : World} {g : Nat} {C : Co} {a : Option Addr} {ca : Nat} {b : Option Addr} {cb : Nat} {d : Option Addr} {cd : Nat} {b7 : Option Addr} {c7 : Nat} {D : List Int} (h : CoW w g C a ca b cb d cd) (hb : Below w.heap.size w w5) (ho : w5.ownsRow w.heap.size 3 1 (.slice b7 D.length c7) D.length (i64s D)) :
    CoW (w5.setCell ⟨g, 3, none⟩ (.slice b7 D.length c7)) g { C with W := D } a ca b cb b7 c7 ∧ Mvs w (w5.setCell ⟨g, 3, none⟩ (.slice b7 D.length c7)) (CF g a b d) (CF g a b b7) := by
  have hlt := h.lt
  have hlow := own_low ho
  refine ⟨⟨Whole.set ((hb.block g hlt).trans h.box) 3 _, own_set (own_keep h.rowM hb) h.neM 3 _, own_set (own_keep h.rowH hb) h.neH 3 _, own_set (ownN_base ho (Nat.zero_le _)) (fun x hx e => by have := (hlow x hx).1; omega) 3 _, h.mh, fun x y hx hy e => by have := (hlow y hy).1; have := (own_low h.rowM x hx).2; omega, fun x y hx hy e => by have := (hlow y hy).1; have := (own_low h.rowH x hx).2; omega⟩, ?_⟩
  refine ⟨(hb.mono (Nat.zero_le _)).setCell (p := ⟨g, 3, none⟩) (Nat.zero_le _) _, fun k hk hn => (Below.heap_setCell w5 ⟨g, 3, none⟩ _ k (show k ≠ g from fun e => hn (.inl e))).trans (hb.block k hk), fun k hk => ?_⟩
  rcases hk with h1 | h1 | h1 | ⟨x, hx, rfl⟩
  · exact .inl (.inl h1)
  · exact .inl (.inr (.inl h1))
  · exact .inl (.inr (.inr (.inl h1)))
  · exact .inr (hlow x hx).1
end Go.Proofs.Ytafibgekikjlhaa
