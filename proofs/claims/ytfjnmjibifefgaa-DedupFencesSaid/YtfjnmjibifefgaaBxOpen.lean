/- A value of []api.Batch, opened. -/
import Derived.Test.YtfjnmjibifefgaaBx
import Derived.Test.YtfjnmjibifefgaaBatOpen
import Derived.Test.YtfjnmjibifefgaaKit
import Derived.ChangeArms
import Derived.ChangeShapes
import Derived.WideShapes
import Derived.Deep.Slices
namespace Go.Proofs.Ytfjnmjibifefgaa
open Go.RowKit Vm Bm Go.ChangeShapes Go.WideShapes Go.Deep
set_option linter.unusedVariables false

section
variable {H : Type} {enc : TypeId × Value → H} {w : World} {base : Nat} {spare : Nat → Bool} {held : Bool}
theorem cells_bx : Try.prog.cellsOf 25 = 5 := by kernel_rfl
def BxI (w : World) (x : Bx) : Prop := BatWf x.b ∧ Sl w w.heap.size x.a (recCells x.b.l)
theorem open_bx1 {fuel : Nat} {cs : List Value} {x : DataW H × List MemPlace} (hl : cs.length = 5) (h : DataW.trod enc Try.prog w base spare held fuel 25 cs = some x) :
    ∃ r : Bx, cs = bxOf r ∧ BxI w r := by
  match cs, hl with
  | [c0, c1, c2, c3, c4], _ =>
    obtain ⟨y0, y1, y2, y3, y4, n, g0, g1, g2, g3, g4⟩ := open_struct5 Try.underlying25 ⟨rfl, rfl, rfl, rfl, rfl⟩ cellsInt cellsInt cellsInt cellsInt cellsRecs h
    obtain ⟨n0, e0, _, w0⟩ := DataW.trod_int (k := .i64) Try.underlying3 g0
    obtain ⟨n1, e1, _, w1⟩ := DataW.trod_int (k := .i64) Try.underlying3 g1
    obtain ⟨n2, e2, _, w2⟩ := DataW.trod_int (k := .i64) Try.underlying3 g2
    obtain ⟨n3, e3, _, w3⟩ := DataW.trod_int (k := .i64) Try.underlying3 g3
    obtain ⟨a, m, c, l, e4, hl, hs, hr⟩ := open_recs g4
    simp only [List.cons.injEq, and_true] at e0 e1 e2 e3 e4
    subst e0 e1 e2 e3 e4 hl
    exact ⟨⟨⟨n0, n1, n2, n3, l⟩, a, c⟩, rfl, ⟨bounds_i64 w0, bounds_i64 w1, bounds_i64 w2, bounds_i64 w3, hr⟩, hs⟩
theorem open_bxs0 {fuel : Nat} {cs : List Value} {x : DataW H × List MemPlace} (h : DataW.trod enc Try.prog w base spare held fuel 38 cs = some x) :
    ∃ (a : Option Addr) (n c : Nat) (l : List Bx), cs = [.slice a n c] ∧ l.length = n ∧ Sl w w.heap.size a (bxCells l) ∧ (∀ r ∈ l, BxI w r) ∧ (a = none → c = 0) ∧ n ≤ c ∧ c ≤ maxLen := by
  rcases open_slice Try.underlying38 h with ⟨hcs, _⟩ | ⟨a, len, cap, m, n, D, Pl, hcs, hb, hl, hm, hmm, hx, hi⟩
  · exact ⟨none, 0, 0, [], hcs, rfl, .inl rfl, by simp, fun _ => rfl, Nat.le_refl _, Nat.zero_le _⟩
  · have hlm : len ≤ m := by rw [hmm]; split <;> omega
    have key : ∀ k, k ≤ len → ∃ l : List Bx, l.length = k ∧ (∀ j u, (bxCells l)[j]? = some u → w.cell? (a.add j) = some u) ∧ ∀ r ∈ l, BxI w r := by
      intro k
      induction k with
      | zero => intro _; exact ⟨[], rfl, fun j u hu => by simp [bxCells] at hu, by simp⟩
      | succ k ih =>
        intro hk
        obtain ⟨l, h1, h2, h3⟩ := ih (by omega)
        obtain ⟨cs', hc, ht⟩ := hi k (by omega)
        rw [cells_bx] at hc
        obtain ⟨_, hcl, hat⟩ := World.cells?_some hc
        obtain ⟨r, hr, hri⟩ := open_bx1 hcl ht
        refine ⟨l ++ [r], by simp [h1], fun j u hu => ?_, fun y hy => ?_⟩
        · rw [bxCells_append] at hu
          by_cases hj : j < (bxCells l).length
          · rw [List.getElem?_append_left hj] at hu; exact h2 j u hu
          · rw [List.getElem?_append_right (by omega)] at hu
            have hcl2 := bxCells_length l
            have hj3 : j - (bxCells l).length < 5 := by
              have := (List.getElem?_eq_some_iff.1 hu).1
              simpa [bxCells, bxOf] using this
            have := hat (j - (bxCells l).length) hj3
            rw [hr, Go.Deep.add_add, show k * 5 + (j - (bxCells l).length) = j from by omega] at this
            rw [this]
            simpa [bxCells] using hu
        · rcases List.mem_append.1 hy with hy | hy
          · exact h3 y hy
          · rw [List.mem_singleton.1 hy]; exact hri
    obtain ⟨l, h1, h2, h3⟩ := key len (Nat.le_refl _)
    refine ⟨some a, len, cap, l, hcs, h1, ?_, h3, (fun h => by cases h), by omega, by omega⟩
    by_cases h0 : len = 0
    · have : l = [] := List.eq_nil_of_length_eq_zero (by omega)
      rw [this]; exact .inl rfl
    · obtain ⟨b, off, spot⟩ := a
      have hl0 : 0 < l.length := by omega
      have hc0 := h2 0 _ (by have := (bxCells_at l 0 hl0).1; simpa using this)
      have hspot : spot = none := by simpa [Addr.add] using World.cell?_spot hc0
      subst hspot
      refine .inr ⟨b, off, rfl, cell_lt hc0, fun j u hu => ?_⟩
      have := h2 j u hu
      rwa [add_at] at this
set_option maxRecDepth 100000 in
theorem open_bxs {r : Reach} {b0 : Nat} {v : Value} {d : DataW H} {p : List MemPlace}
    (hv : Value.okWide Try.prog w r b0 38 v) (h : DataW.Trod enc Try.prog w base spare held 38 v d p) :
    ∃ (l : List Bx) (a : Option Addr) (c : Nat), v = .slice a l.length c ∧ Sl w w.heap.size a (bxCells l) ∧ (∀ r ∈ l, BxI w r) ∧ (a = none → c = 0) ∧ l.length ≤ c ∧ c ≤ maxLen := by
  obtain ⟨a0, len0, cap0, rfl⟩ := okWide_slice Try.underlying38 hv
  obtain ⟨fuel, hf⟩ := h
  obtain ⟨a, n, c, l, hcs, hl, hs, hi, hk⟩ := open_bxs0 hf
  simp [Value.cells] at hcs
  obtain ⟨rfl, rfl, rfl⟩ := hcs
  subst hl
  exact ⟨l, a0, cap0, rfl, hs, hi, hk⟩
end
end Go.Proofs.Ytfjnmjibifefgaa
