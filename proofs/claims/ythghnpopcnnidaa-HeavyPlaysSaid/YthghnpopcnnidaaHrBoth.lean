/- Both objects side by side. -/
import Derived.Test.YthghnpopcnnidaaHrTop
import Derived.Test.YthghnpopcnnidaaHrBig
import Derived.Deep.RegionHeld3
import Derived.Deep.RegionWith
namespace Go.Proofs.Ythghnpopcnnidaa
open Go.RowKit Vm
set_option linter.unusedVariables false
set_option linter.unusedSimpArgs false

/-- The code's, the document's, apart from one another, and all that was there as it was. -/
def JB (w0 w : World) (g r : Nat) (H R : Hv) : Prop := ∃ S T, HA w g H S ∧ RA w r R T ∧ (∀ k, S k → ¬ T k) ∧ (∀ k, S k → w0.heap.size ≤ k) ∧ (∀ k, T k → w0.heap.size ≤ k) ∧ Below w0.heap.size w0 w
theorem JB.low {w0 w : World} {g r : Nat} {H R : Hv} (h : JB w0 w g r H R) : Below w0.heap.size w0 w := by
  obtain ⟨S, T, _, _, _, _, _, h⟩ := h; exact h
theorem JB.keep {w0 w w' : World} {g r : Nat} {H R : Hv} (h : JB w0 w g r H R) (hb : Below w.heap.size w w') : JB w0 w' g r H R := by
  obtain ⟨S, T, h1, h2, h3, h4, h5, h6⟩ := h
  exact ⟨S, T, h1.keep hb, h2.keep hb, h3, h4, h5, gtrans h6 hb⟩
theorem JB.cell {w0 w : World} {g r : Nat} {H R : Hv} (h : JB w0 w g r H R) : w.cell? ⟨r, 1, none⟩ = some (.int .i64 (R.s : Int)) := by
  obtain ⟨S, T, h1, h2, _⟩ := h
  exact h2.cells.2.1
/-- A row that was there at the beginning. -/
def Old (w0 : World) (a : Option Addr) (l : List Int) : Prop := l = [] ∨ (Sl w0 w0.heap.size a (i64s l) ∧ ∀ x, a = some x → x.block < w0.heap.size)
theorem Old.apt {w0 w : World} {a : Option Addr} {l : List Int} {S : Nat → Prop} (h : Old w0 a l) (hb : Below w0.heap.size w0 w) (hS : ∀ k, S k → w0.heap.size ≤ k) : l = [] ∨ Apt w S a (i64s l) := by
  rcases h with h | ⟨h1, h2⟩
  · exact .inl h
  · refine .inr ⟨(h1.below hb (Nat.le_refl _)).grow hb.size, fun x hx => ?_⟩
    have h3 := h2 x hx
    exact ⟨fun hc => by have := hS _ hc; omega, by have := hb.size; omega⟩
theorem jb_add (K : Nat) (l : List Int) (N : Nat) (al : Option Addr) (cl : Nat) (H R : Hv) (g r : Nat) (w0 w : World) (hN : l.length = N) (hK : K + N ≤ 2000) (hok : HOk H K) (hl : Old w0 al l) (h : JB w0 w g r H R) :
    Calls Try.prog 13 #[.pointer (some ⟨g, 0, none⟩), .slice al N cl] w fun e w' => e = .returned (.int .i64 0) ∧ JB w0 w' g r (addTo H l N) R := by
  obtain ⟨S, T, h1, h2, h3, h4, h5, h6⟩ := h
  refine (add_any K l N al cl H g S w hN hK hok (hl.apt h6 h4) h1).mono fun e w' ⟨he, S', h7, hm⟩ => ⟨he, S', T, h7, h2.mvs hm (fun k hk hc => h3 k hc hk), fun k hk hc => ?_, hm.low2 h4 h6.size, h5, h6.trans (hm.low h4 h6.size)⟩
  rcases hm.2.2 k hk with h8 | h8
  · exact h3 k h8 hc
  · have := h2.live k hc; omega
theorem jb_radd (K : Nat) (l : List Int) (N : Nat) (al : Option Addr) (cl : Nat) (H R : Hv) (g r : Nat) (w0 w : World) (hN : l.length = N) (hK : K + N ≤ 2000) (hok : HOk R K) (hl : Old w0 al l) (h : JB w0 w g r H R) :
    Calls Try.prog 14 #[.pointer (some ⟨r, 0, none⟩), .slice al N cl] w fun e w' => e = .returned (.int .i64 0) ∧ JB w0 w' g r H (addTo R l N) := by
  obtain ⟨S, T, h1, h2, h3, h4, h5, h6⟩ := h
  refine (radd_ra K l N al cl R r T w hN hK hok (hl.apt h6 h5) h2).mono fun e w' ⟨he, T', h7, hm⟩ => ⟨he, S, T', h1.mvs hm h3, h7, fun k hk hc => ?_, h4, hm.low2 h5 h6.size, h6.trans (hm.low h5 h6.size)⟩
  rcases hm.2.2 k hc with h8 | h8
  · exact h3 k hk h8
  · have := h1.live k hk; omega
theorem jb_cnt (K : Nat) (x : Int) (H R : Hv) (g r : Nat) (w0 w : World) (hK : K ≤ 2000) (hok : HOk H K) (h : JB w0 w g r H R) :
    Calls Try.prog 15 #[.pointer (some ⟨g, 0, none⟩), .int .i64 x] w fun e w' => e = .returned (.tuple #[.int .i64 (loH H.L x), .int .i64 (hiH H.m H.L x)]) ∧ Below w.heap.size w w' := by
  obtain ⟨S, T, h1, _⟩ := h
  exact cnt_ha K x H g S w hK hok h1
theorem jb_rcnt (K : Nat) (x : Int) (H R : Hv) (g r : Nat) (w0 w : World) (hK : K ≤ 2000) (hok : HOk R K) (h : JB w0 w g r H R) :
    Calls Try.prog 16 #[.pointer (some ⟨r, 0, none⟩), .int .i64 x] w fun e w' => e = .returned (.tuple #[.int .i64 (loH R.L x), .int .i64 (hiH R.m R.L x)]) ∧ Below w.heap.size w w' := by
  obtain ⟨S, T, _, h2, _⟩ := h
  exact rcnt_ra K x R r T w hK hok h2
theorem jb_seen (H R : Hv) (g r : Nat) (w0 w : World) (h : JB w0 w g r H R) :
    Calls Try.prog 17 #[.pointer (some ⟨g, 0, none⟩)] w fun e w' => e = .returned (.int .i64 (H.s : Int)) ∧ w' = w := by
  obtain ⟨S, T, h1, _⟩ := h
  exact seen_ha H g S w h1
theorem jb_top (n : Int) (K : Nat) (H R : Hv) (g r q : Nat) (w0 w : World) (hn : n ≤ 9223372036854775807) (hq : min n.toNat H.L.length = q) (hok : HOk H K) (h : JB w0 w g r H R) :
    Calls Try.prog 19 #[.pointer (some ⟨g, 0, none⟩), .int .i64 n] w (RtQ (topL H.L) q w) := by
  obtain ⟨S, T, h1, _⟩ := h
  obtain ⟨a, c, h1, _⟩ := h1
  by_cases h0 : n < 1
  · obtain rfl : q = 0 := by omega
    exact (top_low n H g w h0).mono fun e w' ⟨he, hw⟩ => ⟨none, 0, he, by rw [List.take_zero]; exact Sl.nil _ _ _, by rw [hw]; exact Below.refl _ _⟩
  · obtain ⟨m, rfl⟩ : ∃ m : Nat, n = (m : Int) := ⟨n.toNat, by omega⟩
    have e : min m H.L.length = q := by omega
    have := top_big m H g a c w (by omega) (by omega) (by have := hok.len; have := hok.m1; omega) h1
    rw [e] at this
    exact this.mono fun e w' ⟨a', c', he, hs, _, hb⟩ => ⟨a', c', he, hs, hb⟩
theorem jb_rtop (n : Int) (K : Nat) (H R : Hv) (g r q : Nat) (w0 w : World) (hq : min n.toNat R.L.length = q) (hok : HOk R K) (h : JB w0 w g r H R) :
    Calls Try.prog 20 #[.pointer (some ⟨r, 0, none⟩), .int .i64 n] w (RtQ (topL R.L) q w) := by
  obtain ⟨S, T, _, h2, _⟩ := h
  obtain ⟨a, c, h2, _⟩ := h2
  have := rtop_walk n R r a c q w (by have := hok.len; have := hok.m1; omega) hq h2
  rwa [ins_top hok.nd] at this
theorem keepC {w w' : World} {p : Addr} {v : Value} (h : w.cell? p = some v) (hb : Below w.heap.size w w') : w'.cell? p = some v := (hb.cell (cell_lt h)).trans h
theorem slK {w w' : World} {a : Option Addr} {xs : List Value} (h : Sl w w.heap.size a xs) (hb : Below w.heap.size w w') : Sl w' w'.heap.size a xs := (h.below hb (Nat.le_refl _)).grow hb.size
theorem addTo_two (H : Hv) (l m : List Int) : ∀ i, addTo H (l ++ m) (l.length + i) = addTo (addTo H l l.length) m i := fun i => by
  induction i with
  | zero =>
    have : ∀ j, j ≤ l.length → addTo H (l ++ m) j = addTo H l j := fun j hj => by
      induction j with
      | zero => rfl
      | succ j ih =>
        show countH (addTo H (l ++ m) j) ((l ++ m).getD j 0) = countH (addTo H l j) (l.getD j 0)
        rw [ih (by omega)]
        congr 1
        simp [List.getD, List.getElem?_append_left (show j < l.length by omega)]
    exact this _ (Nat.le_refl _)
  | succ i ih =>
    show countH (addTo H (l ++ m) (l.length + i)) ((l ++ m).getD (l.length + i) 0) = countH (addTo (addTo H l l.length) m i) (m.getD i 0)
    rw [ih]
    congr 1
    simp [List.getD, List.getElem?_append_right (show l.length ≤ l.length + i by omega)]
theorem jb_new (m : Nat) (w0 wa w1 : World) (g : Nat) (S : Nat → Prop) (A : HA wa g (newH m) S) (hZ : ∀ k, S k → w0.heap.size ≤ k) (b0 : Below w0.heap.size w0 wa) (b1 : Below wa.heap.size wa w1) :
    JB w0 (w1.alloc (.cells #[.int .i64 (m : Int), .int .i64 0, .slice none 0 0] 30)) g w1.heap.size (newH m) (newH m) := by
  have hal := balloc w1 (.cells #[.int .i64 (m : Int), .int .i64 0, .slice none 0 0] 30)
  have A1 := A.keep b1
  have hl := A1.live
  have hz := (gtrans b0 b1).size
  refine ⟨S, HF w1.heap.size none, A1.keep hal, ⟨none, 0, ⟨Whole.new w1 _ _, World.ownsRow_nil _ _ _ _⟩, rfl⟩, ?_, hZ, ?_, gtrans (gtrans b0 b1) hal⟩
  · rintro k hk (rfl | ⟨x, hx, rfl⟩)
    · exact absurd (hl _ hk) (Nat.lt_irrefl _)
    · cases hx
  · rintro k (rfl | ⟨x, hx, rfl⟩)
    · exact hz
    · cases hx
end Go.Proofs.Ythghnpopcnnidaa
