/- Words for the walks of the statements of layer 36 over rows of asks. -/
import Derived.Test.YtbhbilmpkgcmeaaQuLaw
import Derived.Test.YtbhbilmpkgcmeaaAkOpen
import Derived.Test.YtbhbilmpkgcmeaaAwake36
namespace Go.Proofs.Ytbhbilmpkgcmeaa
open Go.RowKit Vm
set_option linter.unusedVariables false

theorem mask_of (x M : Int) (h0 : 0 ≤ M) (hM : M < 9223372036854775808) : ∃ y : Int, bits .and .i64 x M = y ∧ 0 ≤ y ∧ y ≤ M := by
  refine ⟨_, rfl, ?_⟩
  have h2 : ((BitVec.ofInt 64 M).toNat : Int) = M := by
    rw [BitVec.toNat_ofInt]; omega
  have h3 : (BitVec.ofInt 64 x &&& BitVec.ofInt 64 M).toNat ≤ (BitVec.ofInt 64 M).toNat := by
    rw [BitVec.toNat_and]; exact Nat.and_le_right
  have e : bits .and .i64 x M = IntKind.i64.wrap ((BitVec.ofInt 64 x &&& BitVec.ofInt 64 M).toNat : Int) := rfl
  rw [e, IntKind.wrap_i64]
  omega
/-- The asks that are played, of those that came in. -/
theorem asks_cut {w : World} {a : Option Addr} {c : Nat} {l : List Ak} (M : Nat) (hl : Sl w w.heap.size a (akCells l)) (hc : l.length ≤ c) :
    ∃ ls : List Ak, ls.length = min l.length M ∧ Sl w w.heap.size a (akCells ls) := ⟨l.take M, by rw [List.length_take]; omega, ak_pre hl M⟩
theorem round4 {t m : Int} {ls : List Ac} {nw who n d : Int} (hm : MayQ t m) (h : Four t m ls nw) (hn : 0 ≤ nw) (hd : 0 ≤ d) (hnd : nw + d ≤ 1099511627776) (hw : 0 ≤ who ∧ who ≤ 3) (h0 : 0 ≤ n) :
    ∃ D W E, TkIs t m ls who n (nw + d) D W E ∧ Tk4 t m ls who n (nw + d) D W E ∧ ((E = 6 ∧ D = [] ∧ W = 0 ∧ m < n) ∨ (E = 0 ∧ Four t m D (nw + d)) ∨ (E = 10 ∧ Four t m D (nw + d))) ∧ Four t m ls (nw + d) ∧ D.length ≤ 4 := by
  have h' := four_later (now' := nw + d) h (by omega)
  obtain ⟨D, W, E, h1, h2⟩ := tk4 hm h' (by omega) hw h0
  refine ⟨D, W, E, h2, h1, ?_, h', ?_⟩
  · rcases tk4_err h1 with rfl | rfl | rfl
    · left
      rcases h1 with ⟨h3, h4, h5, _⟩ | ⟨_, _, _, _, h⟩ | ⟨_, _, _, _, h, _⟩
      · exact ⟨rfl, h4, h5, h3⟩
      all_goals omega
    · exact .inr (.inl ⟨rfl, tk4_four hm h' (by omega) hw h0 h1 (by omega)⟩)
    · exact .inr (.inr ⟨rfl, tk4_four hm h' (by omega) hw h0 h1 (by omega)⟩)
  · by_cases hE : E = 6
    · subst hE
      rcases h1 with ⟨h3, rfl, h5, _⟩ | ⟨_, _, _, _, h⟩ | ⟨_, _, _, _, h, _⟩
      · simp
      all_goals omega
    · exact four_len (tk4_four hm h' (by omega) hw h0 h1 hE)
theorem held4 {w1 w3 : World} {b g o : Nat} {v0 v1 c0 c1 c2 : Value} (h : w3.cell? ⟨b, 0, none⟩ = some v0 ∧ w3.cell? ⟨b, 1, none⟩ = some v1 ∧ w3.cell? ⟨g, o, none⟩ = some c0 ∧ w3.cell? ⟨g, o + 1, none⟩ = some c1 ∧ w3.cell? ⟨g, o + 2, none⟩ = some c2 ∧ Below w1.heap.size w1 w3) : Below w1.heap.size w1 w3 := h.2.2.2.2.2
end Go.Proofs.Ytbhbilmpkgcmeaa
