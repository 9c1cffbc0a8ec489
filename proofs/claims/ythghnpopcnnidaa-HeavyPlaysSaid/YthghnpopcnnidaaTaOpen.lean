/- A value of []api.Tally, opened. -/
import Derived.Test.YthghnpopcnnidaaTa
import Derived.Test.YthghnpopcnnidaaKit
import Derived.ChangeArms
import Derived.ChangeShapes
import Derived.WideShapes
import Derived.Deep.Slices
namespace Go.Proofs.Ythghnpopcnnidaa
open Go.RowKit Vm Go.ChangeShapes Go.WideShapes Go.Deep
set_option linter.unusedVariables false

theorem open_struct_ta {H : Type} {enc : TypeId × Value → H} {P : Program} {w : World} {base : Nat} {spare : Nat → Bool} {held : Bool} {t : TypeId} {f0 f1 f2 : Field} {fuel : Nat} {c0 c1 c2 : Value} {x : DataW H × List MemPlace}
    (hs : P.underlying t = some (.struct #[f0, f1, f2])) (ho : f0.offset = 0 ∧ f1.offset = 1 ∧ f2.offset = 2) (k0 : P.cellsOf f0.type = 1) (k1 : P.cellsOf f1.type = 1) (k2 : P.cellsOf f2.type = 1)
    (hf : DataW.trod enc P w base spare held fuel t [c0, c1, c2] = some x) :
    ∃ y0 y1 y2 n, DataW.trod enc P w base spare held n f0.type [c0] = some y0 ∧ DataW.trod enc P w base spare held n f1.type [c1] = some y1 ∧ DataW.trod enc P w base spare held n f2.type [c2] = some y2 := by
  obtain ⟨xs, n, _, hx, _, hlen, hg⟩ := DataW.trod_struct hs hf
  obtain ⟨o0, o1, o2⟩ := ho
  match xs, hlen with
  | [y0, y1, y2], _ => exact ⟨y0, y1, y2, n, by simpa [o0, k0] using hg 0 f0 rfl, by simpa [o1, k1] using hg 1 f1 rfl, by simpa [o2, k2] using hg 2 f2 rfl⟩
section
variable {H : Type} {enc : TypeId × Value → H} {w : World} {base : Nat} {spare : Nat → Bool} {held : Bool}
theorem cells_ta_i : Try.prog.cellsOf 3 = 1 := by kernel_rfl
theorem cells_ta : Try.prog.cellsOf 45 = 3 := by kernel_rfl
theorem open_ta1 {fuel : Nat} {cs : List Value} {x : DataW H × List MemPlace} (hl : cs.length = 3) (h : DataW.trod enc Try.prog w base spare held fuel 45 cs = some x) :
    ∃ r : Ta, cs = taOf r ∧ TaI r := by
  match cs, hl with
  | [c0, c1, c2], _ =>
    obtain ⟨y0, y1, y2, n, g0, g1, g2⟩ := open_struct_ta Try.underlying45 ⟨rfl, rfl, rfl⟩ cells_ta_i cells_ta_i cells_ta_i h
    obtain ⟨n0, e0, _, w0⟩ := DataW.trod_int (k := .i64) Try.underlying3 g0
    obtain ⟨n1, e1, _, w1⟩ := DataW.trod_int (k := .i64) Try.underlying3 g1
    obtain ⟨n2, e2, _, w2⟩ := DataW.trod_int (k := .i64) Try.underlying3 g2
    simp only [List.cons.injEq, and_true] at e0 e1 e2
    subst e0 e1 e2
    exact ⟨⟨n0, n1, n2⟩, by simp [taOf], bounds_i64 w0, bounds_i64 w1, bounds_i64 w2⟩
theorem open_tas0 {fuel : Nat} {cs : List Value} {x : DataW H × List MemPlace} (h : DataW.trod enc Try.prog w base spare held fuel 28 cs = some x) :
    ∃ (a : Option Addr) (n c : Nat) (l : List Ta), cs = [.slice a n c] ∧ l.length = n ∧ Sl w w.heap.size a (taCells l) ∧ (∀ r ∈ l, TaI r) ∧ (a = none → c = 0) ∧ n ≤ c ∧ c ≤ maxLen := by
  rcases open_slice Try.underlying28 h with ⟨hcs, _⟩ | ⟨a, len, cap, m, n, D, Pl, hcs, hb, hl, hm, hmm, hx, hi⟩
  · exact ⟨none, 0, 0, [], hcs, rfl, .inl rfl, by simp, fun _ => rfl, Nat.le_refl _, Nat.zero_le _⟩
  · have hlm : len ≤ m := by rw [hmm]; split <;> omega
    have key : ∀ k, k ≤ len → ∃ l : List Ta, l.length = k ∧ (∀ j u, (taCells l)[j]? = some u → w.cell? (a.add j) = some u) ∧ ∀ r ∈ l, TaI r := by
      intro k
      induction k with
      | zero => intro _; exact ⟨[], rfl, fun j u hu => by simp [taCells] at hu, by simp⟩
      | succ k ih =>
        intro hk
        obtain ⟨l, h1, h2, h3⟩ := ih (by omega)
        obtain ⟨cs', hc, ht⟩ := hi k (by omega)
        rw [cells_ta] at hc
        obtain ⟨_, hcl, hat⟩ := World.cells?_some hc
        obtain ⟨r, hr, hri⟩ := open_ta1 hcl ht
        refine ⟨l ++ [r], by simp [h1], fun j u hu => ?_, fun y hy => ?_⟩
        · rw [taCells_append] at hu
          by_cases hj : j < (taCells l).length
          · rw [List.getElem?_append_left hj] at hu; exact h2 j u hu
          · rw [List.getElem?_append_right (by omega)] at hu
            have hcl2 := taCells_length l
            have hj3 : j - (taCells l).length < 3 := by
              have := (List.getElem?_eq_some_iff.1 hu).1
              simpa [taCells, taOf] using this
            have := hat (j - (taCells l).length) hj3
            rw [hr, Go.Deep.add_add, show k * 3 + (j - (taCells l).length) = j from by omega] at this
            rw [this]
            simpa [taCells] using hu
        · rcases List.mem_append.1 hy with hy | hy
          · exact h3 y hy
          · rw [List.mem_singleton.1 hy]; exact hri
    obtain ⟨l, h1, h2, h3⟩ := key len (Nat.le_refl _)
    refine ⟨some a, len, cap, l, hcs, h1, ?_, h3, (fun h => by cases h), by omega, by omega⟩
    by_cases h0 : len = 0
    · have : l = [] := List.eq_nil_of_length_eq_zero (by omega)
      rw [this]; exact .inl rfl
    · obtain ⟨b, off, spot⟩ := a
      have hl0 : 0 < l.length := by omega
      have hc0 := h2 0 _ (by have := (taCells_at l 0 hl0).1; simpa using this)
      have hspot : spot = none := by simpa [Addr.add] using World.cell?_spot hc0
      subst hspot
      refine .inr ⟨b, off, rfl, cell_lt hc0, fun j u hu => ?_⟩
      have := h2 j u hu
      rwa [add_at] at this
set_option maxRecDepth 100000 in
theorem open_tas {r : Reach} {b0 : Nat} {v : Value} {d : DataW H} {p : List MemPlace}
    (hv : Value.okWide Try.prog w r b0 28 v) (h : DataW.Trod enc Try.prog w base spare held 28 v d p) :
    ∃ (l : List Ta) (a : Option Addr) (c : Nat), v = .slice a l.length c ∧ Sl w w.heap.size a (taCells l) ∧ (∀ r ∈ l, TaI r) ∧ (a = none → c = 0) ∧ l.length ≤ c ∧ c ≤ maxLen := by
  obtain ⟨a0, len0, cap0, rfl⟩ := okWide_slice Try.underlying28 hv
  obtain ⟨fuel, hf⟩ := h
  obtain ⟨a, n, c, l, hcs, hl, hs, hi, hk⟩ := open_tas0 hf
  simp [Value.cells] at hcs
  obtain ⟨rfl, rfl, rfl⟩ := hcs
  subst hl
  exact ⟨l, a0, cap0, rfl, hs, hi, hk⟩
end
end Go.Proofs.Ythghnpopcnnidaa
