/- Plain mathematics of 2.3: bits that were turned within 32 in a row change the register. -/
import Derived.Test.YteckddlcecleaaaCm
namespace Go.Proofs.Yteckddlcecleaaa.Cm
open Vm

/-- A text as a number, its first byte the lowest. -/
def num : List UInt8 → Nat
  | [] => 0
  | b :: l => b.toNat + 256 * num l
theorem num_lt (l : List UInt8) : num l < 256 ^ l.length := by
  induction l with
  | nil => simp [num]
  | cons b l ih =>
    have := b.toNat_lt
    rw [num, List.length_cons, Nat.pow_succ]
    omega
theorem fourN_num (l : List UInt8) : fourN l.length (num l) = l := by
  induction l with
  | nil => rfl
  | cons b l ih =>
    have := b.toNat_lt
    rw [List.length_cons, fourN, num, show (b.toNat + 256 * num l) / 256 = num l from by omega, ih]
    congr 1
    apply UInt8.toNat_inj.1
    simp
theorem reg_num (l : List UInt8) (r : Nat) : reg r l = steps (8 * l.length) (r ^^^ num l) := by
  have := reg_fourN l.length r (num l) (num_lt l)
  rwa [fourN_num] at this
theorem num_inj {a b : List UInt8} (h : a.length = b.length) (e : num a = num b) : a = b := by
  rw [← fourN_num a, ← fourN_num b, h, e]
theorem cons_xor (b : UInt8) (n : Nat) : b.toNat + 256 * n = b.toNat ^^^ (n * 256) := by
  have := b.toNat_lt
  have h := split_xor (b.toNat + 256 * n) 8
  rw [show (2 : Nat) ^ 8 = 256 from rfl, show (b.toNat + 256 * n) % 256 = b.toNat from by omega, show (b.toNat + 256 * n) / 256 = n from by omega] at h
  exact h
theorem xor_mul (a b k : Nat) : (a ^^^ b) * 2 ^ k = (a * 2 ^ k) ^^^ (b * 2 ^ k) := by
  rw [← Nat.shiftLeft_eq, ← Nat.shiftLeft_eq, ← Nat.shiftLeft_eq, Nat.shiftLeft_xor_distrib]
theorem num_set (l : List UInt8) (k : Nat) (x : UInt8) (h : k < l.length) : num (l.set k (l[k] ^^^ x)) = num l ^^^ (x.toNat * 256 ^ k) := by
  induction l generalizing k with
  | nil => simp at h
  | cons b l ih =>
    rcases k with _ | k
    · simp only [List.set_cons_zero, List.getElem_cons_zero, num, cons_xor, Nat.pow_zero, Nat.mul_one]
      rw [UInt8.toNat_xor, Nat.xor_assoc, Nat.xor_assoc, Nat.xor_comm x.toNat]
    · simp only [List.set_cons_succ, List.getElem_cons_succ, num, cons_xor]
      rw [ih k (by simpa using h), show (256 : Nat) = 2 ^ 8 from rfl, xor_mul, Nat.xor_assoc, Nat.mul_assoc, ← Nat.pow_succ]
theorem seal_reg (l : List UInt8) : reg 4294967295 (seal' l) = steps 32 4294967295 := by
  unfold seal'
  rw [reg_append, reg_four _ (sum l) (more_lt 0 l)]
  congr 1
  unfold sum more
  have h := reg_lt l (r := 4294967295 - 0) (by omega)
  rw [show (4294967295 - 0 : Nat) = 4294967295 from rfl] at h ⊢
  generalize reg 4294967295 l = c at h
  apply Nat.eq_of_testBit_eq
  intro i
  have hz : c < 2 ^ 32 := h
  rw [Nat.testBit_xor, show (4294967295 : Nat) = 2 ^ 32 - 1 from rfl, Nat.testBit_two_pow_sub_one]
  rw [show 2 ^ 32 - 1 - c = 2 ^ 32 - (c + 1) from by omega, Nat.testBit_two_pow_sub_succ hz]
  by_cases hi : i < 32
  · simp [hi]
  · have : c < 2 ^ i := Nat.lt_of_lt_of_le hz (Nat.pow_le_pow_right (by omega) (by omega))
    simp [hi, Nat.testBit_lt_two_pow this]
/-- What was turned: a number of 32 bits, from a place on. -/
theorem turned_unseal {l b : List UInt8} {at' X : Nat} (hl : b.length = (seal' l).length) (ha : at' < 8 * (seal' l).length) (hX : X < 4294967296) (hn : num b = num (seal' l) ^^^ (X * 2 ^ at')) (hne : b ≠ seal' l) : unsealA b = ([], 2) := by
  rcases unseal_cases b with h | ⟨p, _, hp⟩
  · exact h
  · exfalso
    have h1 := seal_reg p
    have h2 := seal_reg l
    rw [← hp, reg_num, hl, hn, ← Nat.xor_assoc, steps_xor, ← reg_num, h2] at h1
    have h3 : steps (8 * (seal' l).length) (X * 2 ^ at') = 0 := by
      have h4 := congrArg (fun x => steps 32 4294967295 ^^^ x) h1
      simpa [← Nat.xor_assoc] using h4
    rw [show 8 * (seal' l).length = at' + (8 * (seal' l).length - at') from by omega, steps_add, steps_up] at h3
    by_cases hx : X = 0
    · subst hx
      apply hne
      apply num_inj hl
      rw [hn]; simp
    · exact steps_ne _ hX hx h3
/-- One bit more that is turned, or not. -/
theorem turn_more {n m X at' i : Nat} (hX : X < 2 ^ i) (hn : n = m ^^^ (X * 2 ^ at')) : n ^^^ 2 ^ (at' + i) = m ^^^ ((X ^^^ 2 ^ i) * 2 ^ at') ∧ X ^^^ 2 ^ i < 2 ^ (i + 1) := by
  constructor
  · rw [hn, xor_mul, Nat.xor_assoc, ← Nat.pow_add, Nat.add_comm i at']
  · exact Nat.xor_lt_two_pow (by rw [Nat.pow_succ]; omega) (by rw [Nat.pow_succ]; have := Nat.two_pow_pos i; omega)
end Go.Proofs.Yteckddlcecleaaa.Cm
