/- A value of []headgatelaw10.Deed, opened. -/
import Derived.Test.YtocmhmfaehnliaaGd
import Derived.Test.YtocmhmfaehnliaaKit
import Derived.ChangeArms
import Derived.ChangeShapes
import Derived.WideShapes
import Derived.Deep.Slices
namespace Go.Proofs.Ytocmhmfaehnliaa
open Go.RowKit Vm Go.ChangeShapes Go.WideShapes Go.Deep
set_option linter.unusedVariables false

theorem open_struct_gd {H : Type} {enc : TypeId × Value → H} {P : Program} {w : World} {base : Nat} {spare : Nat → Bool} {held : Bool} {t : TypeId} {f0 f1 f2 f3 f4 : Field} {fuel : Nat} {c0 c1 c2 c3 c4 : Value} {x : DataW H × List MemPlace}
    (hs : P.underlying t = some (.struct #[f0, f1, f2, f3, f4])) (ho : f0.offset = 0 ∧ f1.offset = 1 ∧ f2.offset = 2 ∧ f3.offset = 3 ∧ f4.offset = 4) (k0 : P.cellsOf f0.type = 1) (k1 : P.cellsOf f1.type = 1) (k2 : P.cellsOf f2.type = 1) (k3 : P.cellsOf f3.type = 1) (k4 : P.cellsOf f4.type = 1)
    (hf : DataW.trod enc P w base spare held fuel t [c0, c1, c2, c3, c4] = some x) :
    ∃ y0 y1 y2 y3 y4 n, DataW.trod enc P w base spare held n f0.type [c0] = some y0 ∧ DataW.trod enc P w base spare held n f1.type [c1] = some y1 ∧ DataW.trod enc P w base spare held n f2.type [c2] = some y2 ∧ DataW.trod enc P w base spare held n f3.type [c3] = some y3 ∧ DataW.trod enc P w base spare held n f4.type [c4] = some y4 := by
  obtain ⟨xs, n, _, hx, _, hlen, hg⟩ := DataW.trod_struct hs hf
  obtain ⟨o0, o1, o2, o3, o4⟩ := ho
  match xs, hlen with
  | [y0, y1, y2, y3, y4], _ => exact ⟨y0, y1, y2, y3, y4, n, by simpa [o0, k0] using hg 0 f0 rfl, by simpa [o1, k1] using hg 1 f1 rfl, by simpa [o2, k2] using hg 2 f2 rfl, by simpa [o3, k3] using hg 3 f3 rfl, by simpa [o4, k4] using hg 4 f4 rfl⟩
section
variable {H : Type} {enc : TypeId × Value → H} {w : World} {base : Nat} {spare : Nat → Bool} {held : Bool}
theorem cells_gd_i : Try.prog.cellsOf 3 = 1 := by kernel_rfl
theorem cells_gd_b : Try.prog.cellsOf 4 = 1 := by kernel_rfl
theorem cells_gd : Try.prog.cellsOf 36 = 5 := by kernel_rfl
theorem open_gd1 {fuel : Nat} {cs : List Value} {x : DataW H × List MemPlace} (hl : cs.length = 5) (h : DataW.trod enc Try.prog w base spare held fuel 36 cs = some x) :
    ∃ r : Gd, cs = gdOf r ∧ GdI r := by
  match cs, hl with
  | [c0, c1, c2, c3, c4], _ =>
    obtain ⟨y0, y1, y2, y3, y4, n, g0, g1, g2, g3, g4⟩ := open_struct_gd Try.underlying36 ⟨rfl, rfl, rfl, rfl, rfl⟩ cells_gd_i cells_gd_i cells_gd_i cells_gd_i cells_gd_b h
    obtain ⟨n0, e0, _, w0⟩ := DataW.trod_int (k := .i64) Try.underlying3 g0
    obtain ⟨n1, e1, _, w1⟩ := DataW.trod_int (k := .i64) Try.underlying3 g1
    obtain ⟨n2, e2, _, w2⟩ := DataW.trod_int (k := .i64) Try.underlying3 g2
    obtain ⟨n3, e3, _, w3⟩ := DataW.trod_int (k := .i64) Try.underlying3 g3
    obtain ⟨n4, e4, _⟩ := DataW.trod_bool Try.underlying4 g4
    simp only [List.cons.injEq, and_true] at e0 e1 e2 e3 e4
    subst e0 e1 e2 e3 e4
    exact ⟨⟨n0, n1, n2, n3, n4⟩, by simp [gdOf], bounds_i64 w0, bounds_i64 w1, bounds_i64 w2, bounds_i64 w3, trivial⟩
theorem open_gds0 {fuel : Nat} {cs : List Value} {x : DataW H × List MemPlace} (h : DataW.trod enc Try.prog w base spare held fuel 24 cs = some x) :
    ∃ (a : Option Addr) (n c : Nat) (l : List Gd), cs = [.slice a n c] ∧ l.length = n ∧ Sl w w.heap.size a (gdCells l) ∧ (∀ r ∈ l, GdI r) ∧ (a = none → c = 0) ∧ n ≤ c ∧ c ≤ maxLen := by
  rcases open_slice Try.underlying24 h with ⟨hcs, _⟩ | ⟨a, len, cap, m, n, D, Pl, hcs, hb, hl, hm, hmm, hx, hi⟩
  · exact ⟨none, 0, 0, [], hcs, rfl, .inl rfl, by simp, fun _ => rfl, Nat.le_refl _, Nat.zero_le _⟩
  · have hlm : len ≤ m := by rw [hmm]; split <;> omega
    have key : ∀ k, k ≤ len → ∃ l : List Gd, l.length = k ∧ (∀ j u, (gdCells l)[j]? = some u → w.cell? (a.add j) = some u) ∧ ∀ r ∈ l, GdI r := by
      intro k
      induction k with
      | zero => intro _; exact ⟨[], rfl, fun j u hu => by simp [gdCells] at hu, by simp⟩
      | succ k ih =>
        intro hk
        obtain ⟨l, h1, h2, h3⟩ := ih (by omega)
        obtain ⟨cs', hc, ht⟩ := hi k (by omega)
        rw [cells_gd] at hc
        obtain ⟨_, hcl, hat⟩ := World.cells?_some hc
        obtain ⟨r, hr, hri⟩ := open_gd1 hcl ht
        refine ⟨l ++ [r], by simp [h1], fun j u hu => ?_, fun y hy => ?_⟩
        · rw [gdCells_append] at hu
          by_cases hj : j < (gdCells l).length
          · rw [List.getElem?_append_left hj] at hu; exact h2 j u hu
          · rw [List.getElem?_append_right (by omega)] at hu
            have hcl2 := gdCells_length l
            have hj3 : j - (gdCells l).length < 5 := by
              have := (List.getElem?_eq_some_iff.1 hu).1
              simpa [gdCells, gdOf] using this
            have := hat (j - (gdCells l).length) hj3
            rw [hr, Go.Deep.add_add, show k * 5 + (j - (gdCells l).length) = j from by omega] at this
            rw [this]
            simpa [gdCells] using hu
        · rcases List.mem_append.1 hy with hy | hy
          · exact h3 y hy
          · rw [List.mem_singleton.1 hy]; exact hri
    obtain ⟨l, h1, h2, h3⟩ := key len (Nat.le_refl _)
    refine ⟨some a, len, cap, l, hcs, h1, ?_, h3, (fun h => by cases h), by omega, by omega⟩
    by_cases h0 : len = 0
    · have : l = [] := List.eq_nil_of_length_eq_zero (by omega)
      rw [this]; exact .inl rfl
    · obtain ⟨b, off, spot⟩ := a
      have hl0 : 0 < l.length := by omega
      have hc0 := h2 0 _ (by have := (gdCells_at l 0 hl0).1; simpa using this)
      have hspot : spot = none := by simpa [Addr.add] using World.cell?_spot hc0
      subst hspot
      refine .inr ⟨b, off, rfl, cell_lt hc0, fun j u hu => ?_⟩
      have := h2 j u hu
      rwa [add_at] at this
set_option maxRecDepth 100000 in
theorem open_gds {r : Reach} {b0 : Nat} {v : Value} {d : DataW H} {p : List MemPlace}
    (hv : Value.okWide Try.prog w r b0 24 v) (h : DataW.Trod enc Try.prog w base spare held 24 v d p) :
    ∃ (l : List Gd) (a : Option Addr) (c : Nat), v = .slice a l.length c ∧ Sl w w.heap.size a (gdCells l) ∧ (∀ r ∈ l, GdI r) ∧ (a = none → c = 0) ∧ l.length ≤ c ∧ c ≤ maxLen := by
  obtain ⟨a0, len0, cap0, rfl⟩ := okWide_slice Try.underlying24 hv
  obtain ⟨fuel, hf⟩ := h
  obtain ⟨a, n, c, l, hcs, hl, hs, hi, hk⟩ := open_gds0 hf
  simp [Value.cells] at hcs
  obtain ⟨rfl, rfl, rfl⟩ := hcs
  subst hl
  exact ⟨l, a0, cap0, rfl, hs, hi, hk⟩
end
end Go.Proofs.Ytocmhmfaehnliaa
