/- A value of []bool, opened. -/
import Derived.Test.YtgeeeaacaofbeaaSlice
import Derived.Test.YtgeeeaacaofbeaaAsKit
import Derived.Test.YtgeeeaacaofbeaaKit
import Derived.ChangeArms
import Derived.ChangeShapes
import Derived.WideShapes
import Derived.Deep.Slices
namespace Go.Proofs.Ytgeeeaacaofbeaa
open Go.RowKit Vm Go.ChangeShapes Go.WideShapes Go.Deep
set_option linter.unusedVariables false

def boCells (l : List Bool) : List Value := l.map Value.bool
theorem boCells_at (l : List Bool) (j : Nat) (h : j < l.length) : (boCells l)[j]? = some (.bool l[j]) := by simp [boCells, h]
section
variable {H : Type} {enc : TypeId × Value → H} {w : World} {base : Nat} {spare : Nat → Bool} {held : Bool}
theorem cells_bo : Try.prog.cellsOf 4 = 1 := by kernel_rfl
theorem boCells_app (a b : List Bool) : boCells (a ++ b) = boCells a ++ boCells b := by simp [boCells]
theorem boCells_length (a : List Bool) : (boCells a).length = a.length := by simp [boCells]
theorem open_bo1 {fuel : Nat} {cs : List Value} {x : DataW H × List MemPlace} (h : DataW.trod enc Try.prog w base spare held fuel 4 cs = some x) :
    ∃ t : Bool, cs = [.bool t] ∧ True := by
  obtain ⟨s, e2, _⟩ := DataW.trod_bool Try.underlying4 h
  exact ⟨s, e2, trivial⟩
theorem open_bos0 {fuel : Nat} {cs : List Value} {x : DataW H × List MemPlace} (h : DataW.trod enc Try.prog w base spare held fuel 36 cs = some x) :
    ∃ (a : Option Addr) (n c : Nat) (l : List Bool), cs = [.slice a n c] ∧ l.length = n ∧ Sl w w.heap.size a (boCells l) ∧ (∀ r ∈ l, True) ∧ (a = none → c = 0) ∧ n ≤ c ∧ c ≤ maxLen := by
  rcases open_slice Try.underlying36 h with ⟨hcs, _⟩ | ⟨a, len, cap, m, n, D, Pl, hcs, hb, hl, hm, hmm, hx, hi⟩
  · exact ⟨none, 0, 0, [], hcs, rfl, .inl rfl, by simp, fun _ => rfl, Nat.le_refl _, Nat.zero_le _⟩
  · have hlm : len ≤ m := by rw [hmm]; split <;> omega
    have key : ∀ k, k ≤ len → ∃ l : List Bool, l.length = k ∧ (∀ j u, (boCells l)[j]? = some u → w.cell? (a.add j) = some u) ∧ ∀ r ∈ l, True := by
      intro k
      induction k with
      | zero => intro _; exact ⟨[], rfl, fun j u hu => by simp [boCells] at hu, by simp⟩
      | succ k ih =>
        intro hk
        obtain ⟨l, h1, h2, h3⟩ := ih (by omega)
        obtain ⟨cs', hc, ht⟩ := hi k (by omega)
        rw [cells_bo] at hc
        obtain ⟨_, hcl, hat⟩ := World.cells?_some hc
        obtain ⟨r, hr, hri⟩ := open_bo1 ht
        refine ⟨l ++ [r], by simp [h1], fun j u hu => ?_, fun y hy => ?_⟩
        · rw [boCells_app] at hu
          by_cases hj : j < (boCells l).length
          · rw [List.getElem?_append_left hj] at hu; exact h2 j u hu
          · rw [List.getElem?_append_right (by omega)] at hu
            have hcl2 := boCells_length l
            have hj3 : j - (boCells l).length < 1 := by
              have := (List.getElem?_eq_some_iff.1 hu).1
              simpa [boCells] using this
            have := hat (j - (boCells l).length) hj3
            rw [hr, Go.Deep.add_add, show k * 1 + (j - (boCells l).length) = j from by omega] at this
            rw [this]
            simpa [boCells] using hu
        · rcases List.mem_append.1 hy with hy | hy
          · exact h3 y hy
          · trivial
    obtain ⟨l, h1, h2, h3⟩ := key len (Nat.le_refl _)
    refine ⟨some a, len, cap, l, hcs, h1, ?_, h3, (fun h => by cases h), by omega, by omega⟩
    by_cases h0 : len = 0
    · have : l = [] := List.eq_nil_of_length_eq_zero (by omega)
      rw [this]; exact .inl rfl
    · obtain ⟨b, off, spot⟩ := a
      have hl0 : 0 < l.length := by omega
      have hc0 := h2 0 _ (by have := (boCells_at l 0 hl0); simpa using this)
      have hspot : spot = none := by simpa [Addr.add] using World.cell?_spot hc0
      subst hspot
      refine .inr ⟨b, off, rfl, cell_lt hc0, fun j u hu => ?_⟩
      have := h2 j u hu
      rwa [add_at] at this
set_option maxRecDepth 100000 in
theorem open_bos {r : Reach} {b0 : Nat} {v : Value} {d : DataW H} {p : List MemPlace}
    (hv : Value.okWide Try.prog w r b0 36 v) (h : DataW.Trod enc Try.prog w base spare held 36 v d p) :
    ∃ (l : List Bool) (a : Option Addr) (c : Nat), v = .slice a l.length c ∧ Sl w w.heap.size a (boCells l) ∧ (∀ r ∈ l, True) ∧ (a = none → c = 0) ∧ l.length ≤ c ∧ c ≤ maxLen := by
  obtain ⟨a0, len0, cap0, rfl⟩ := okWide_slice Try.underlying36 hv
  obtain ⟨fuel, hf⟩ := h
  obtain ⟨a, n, c, l, hcs, hl, hs, hi, hk⟩ := open_bos0 hf
  simp [Value.cells] at hcs
  obtain ⟨rfl, rfl, rfl⟩ := hcs
  subst hl
  exact ⟨l, a0, cap0, rfl, hs, hi, hk⟩
end
end Go.Proofs.Ytgeeeaacaofbeaa
