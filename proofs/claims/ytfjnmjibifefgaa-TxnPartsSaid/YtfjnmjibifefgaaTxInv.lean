/- What holds of the rows behind notes. -/
import Derived.Test.YtfjnmjibifefgaaTxRow
namespace Go.Proofs.Ytfjnmjibifefgaa
open Go.RowKit Vm
set_option linter.unusedVariables false

theorem or_in {a b : Int} (ha : 0 ≤ a ∧ a < 8192) (hb : 1 ≤ b ∧ b < 8192) : 1 ≤ bits .or .i64 a b ∧ bits .or .i64 a b < 8192 := by
  have e : bits .or .i64 a b = IntKind.i64.wrap ((BitVec.ofInt 64 a ||| BitVec.ofInt 64 b).toNat : Int) := rfl
  have h1 : (BitVec.ofInt 64 a).toNat = a.toNat := by rw [BitVec.toNat_ofInt]; omega
  have h2 : (BitVec.ofInt 64 b).toNat = b.toNat := by rw [BitVec.toNat_ofInt]; omega
  have h3 : a.toNat ||| b.toNat < 2 ^ 13 := Nat.or_lt_two_pow (by omega) (by omega)
  have h4 : b.toNat ≤ a.toNat ||| b.toNat := Nat.right_le_or
  rw [e, BitVec.toNat_or, h1, h2, IntKind.wrap_i64]
  omega
def InvT (j : Int) (l : List Tr) : Prop := SrtR trKey none l ∧ ∀ x ∈ l, (1 ≤ x.p ∧ x.p ≤ 8) ∧ (1 ≤ x.e ∧ x.e ≤ j) ∧ (1 ≤ x.s ∧ x.s ≤ 4) ∧ (0 ≤ x.m ∧ x.m < 8192) ∧ (x.m = 0 ↔ x.s = 1)
theorem invT_nil : InvT 0 [] := ⟨trivial, fun x hx => by cases hx⟩
theorem invT_mono {i j : Int} {l : List Tr} (h : InvT i l) (hij : i ≤ j) : InvT j l := ⟨h.1, fun x hx => by have := h.2 x hx; omega⟩
theorem invT_right {j : Int} {l : List Tr} (h : InvT j l) (hj : j ≤ 1099511627776) : RightT l := by
  intro i hi
  have hx := h.2 _ (getD_mem l tr0 i hi)
  have ha := srtR_asc trKey tr0 h.1
  refine ⟨hx.1, hx.2.1.1, by omega, fun h0 => ?_⟩
  exact ha (i - 1) i (by omega) hi
theorem turnT_inv {x y : Tr} {k m j : Int} (hm : (k ≠ 2 ∧ m = 0) ∨ (k = 2 ∧ 1 ≤ m ∧ m < 8192)) (h : turnT x k m = some y) (hx : (1 ≤ x.p ∧ x.p ≤ 8) ∧ (1 ≤ x.e ∧ x.e ≤ j) ∧ (1 ≤ x.s ∧ x.s ≤ 4) ∧ (0 ≤ x.m ∧ x.m < 8192) ∧ (x.m = 0 ↔ x.s = 1)) :
    (1 ≤ y.p ∧ y.p ≤ 8) ∧ (1 ≤ y.e ∧ y.e ≤ j + 1) ∧ (1 ≤ y.s ∧ y.s ≤ 4) ∧ (0 ≤ y.m ∧ y.m < 8192) ∧ (y.m = 0 ↔ y.s = 1) := by
  unfold turnT at h
  repeat' split at h
  all_goals first | cases h; done | skip
  all_goals injection h with h
  · subst h; refine ⟨?_, ?_, ?_, ?_, ?_⟩ <;> simp <;> omega
  · rename_i hk2 _
    have := or_in (a := x.m) (b := m) hx.2.2.2.1 (by omega)
    subst h; refine ⟨?_, ?_, ?_, ?_, ?_⟩ <;> simp <;> omega
  · subst h; refine ⟨?_, ?_, ?_, ?_, ?_⟩ <;> simp <;> omega
  · subst h; refine ⟨?_, ?_, ?_, ?_, ?_⟩ <;> simp <;> omega
  · subst h; refine ⟨?_, ?_, ?_, ?_, ?_⟩ <;> simp <;> omega
theorem invT_fold {j k p m : Int} {l D : List Tr} (hj : j < 1099511627776) (h0 : 0 ≤ j) (h : InvT j l) (hF : FdIs l k p m D 0) : InvT (j + 1) D := by
  have key : ∀ y : Tr, ((1 ≤ y.p ∧ y.p ≤ 8) ∧ (1 ≤ y.e ∧ y.e ≤ j + 1) ∧ (1 ≤ y.s ∧ y.s ≤ 4) ∧ (0 ≤ y.m ∧ y.m < 8192) ∧ (y.m = 0 ↔ y.s = 1)) → D = putR trKey l y → InvT (j + 1) D := fun y hy hD => by
    rw [hD]
    refine ⟨putR_srt trKey h.1 (fun z hz => by cases hz), fun x hx => ?_⟩
    rcases putR_mem trKey hx with rfl | hx
    · exact hy
    · have := h.2 x hx; omega
  rcases hF with ⟨_, _, h⟩ | ⟨hg, hn, ⟨_, _, h⟩ | ⟨hk, hD, _⟩⟩ | ⟨hg, x, hx, ⟨_, _, h⟩ | ⟨y, hy, ⟨_, _, h⟩ | ⟨_, hD, _⟩⟩⟩
  · omega
  · omega
  · exact key _ (by have := hg.1.2.1; refine ⟨?_, ?_, ?_, ?_, ?_⟩ <;> simp <;> omega) hD
  · omega
  · omega
  · exact key y (turnT_inv hg.1.2.2 hy (h.2 x (getR_some trKey hx).1)) hD
theorem invT_step {j : Int} {l : List Tr} (n : Nt) (hj : j < 1099511627776) (h0 : 0 ≤ j) (h : InvT j l) : InvT (j + 1) (stepF l n) := by
  unfold stepF
  split
  · next he =>
    have := foldF_is l n
    rw [he] at this
    exact invT_fold hj h0 h this
  · exact invT_mono h (by omega)
theorem behF_inv (ns : List Nt) : InvT 100 (behF (ns.take 100)) := by
  have key : ∀ k : Nat, k ≤ (ns.take 100).length → InvT (k : Int) (behF ((ns.take 100).take k)) := by
    intro k
    induction k with
    | zero => intro _; exact invT_nil
    | succ k ih =>
      intro hk
      have h1 := ih (by omega)
      have hl : (ns.take 100).length ≤ 100 := List.length_take_le _ _
      rw [take_get _ nt0 k (by omega), behF_snoc]
      have := invT_step ((ns.take 100).getD k nt0) (by omega) (by omega) h1
      simpa using this
  have hl : (ns.take 100).length ≤ 100 := List.length_take_le _ _
  have := key _ (Nat.le_refl _)
  rw [List.take_length] at this
  exact invT_mono this (by omega)
end Go.Proofs.Ytfjnmjibifefgaa
