/- A store of three cells, of five, into a box of the call's own that is known whole. -/
import Derived.Test.YthghnpopcnnidaaRecs
import Derived.Test.YthghnpopcnnidaaWhole
namespace Go.Proofs.Ythghnpopcnnidaa
open Go.RowKit Vm
set_option linter.unusedVariables false

theorem ownN_far {w : World} {base n size : Nat} {e : TypeId} {v : Value} {xs : List Value} (h : w.ownsRow base e size v n xs) (b i : Nat) (u : Value) (hb : b < base) : (w.setCell ⟨b, i, none⟩ u).ownsRow base e size v n xs := by
  obtain ⟨hl, hr⟩ := h
  rcases hr with h0 | ⟨g, cap, cur, hv, hg, hh, r⟩
  · exact ⟨hl, .inl h0⟩
  · exact ⟨hl, .inr ⟨g, cap, cur, hv, hg, (Below.heap_setCell w ⟨b, i, none⟩ u g (show g ≠ b by omega)).trans hh, r⟩⟩
theorem st3 {w : World} {A : Nat} {t : TypeId} {a b c : Value} (h : Whole w A t #[a, b, c]) (x y z : Value) {base n size : Nat} {e : TypeId} {v : Value} {xs : List Value} (hA : A < base) (ho : w.ownsRow base e size v n xs) :
    Whole (((w.setCell ⟨A, 0, none⟩ x).setCell ⟨A, 1, none⟩ y).setCell ⟨A, 2, none⟩ z) A t #[x, y, z] ∧ (((w.setCell ⟨A, 0, none⟩ x).setCell ⟨A, 1, none⟩ y).setCell ⟨A, 2, none⟩ z).ownsRow base e size v n xs ∧
      ∀ C, C ≤ A → Below C w (((w.setCell ⟨A, 0, none⟩ x).setCell ⟨A, 1, none⟩ y).setCell ⟨A, 2, none⟩ z) := by
  refine ⟨?_, ownN_far (ownN_far (ownN_far ho A 0 x hA) A 1 y hA) A 2 z hA, fun C hC => (((Below.refl C w).setCell (p := ⟨A, 0, none⟩) hC x).setCell (p := ⟨A, 1, none⟩) hC y).setCell (p := ⟨A, 2, none⟩) hC z⟩
  have h3 := ((h.set 0 x).set 1 y).set 2 z
  simpa using h3
end Go.Proofs.Ythghnpopcnnidaa
