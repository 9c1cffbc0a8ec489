/- Plain mathematics of 3.3: a frame of which bits were turned is none. -/
import Derived.Test.YteckddlcecleaaaFm
import Derived.Test.YteckddlcecleaaaTurnedMath
namespace Go.Proofs.Yteckddlcecleaaa.Fm
open Vm Cm
set_option linter.unusedVariables false

theorem num_take (l : List UInt8) : ∀ k, k ≤ l.length → num (l.take k) = num l % 256 ^ k := by
  induction l with
  | nil => intro k h; simp at h; subst h; simp [num]
  | cons b l ih =>
    intro k h
    rcases k with _ | k
    · simp [num]; omega
    · rw [List.take_succ_cons, num, num, ih k (by simpa using h), Nat.pow_succ, Nat.mul_comm (256 ^ k) 256, Nat.mod_mul]
      have := b.toNat_lt
      rw [show (b.toNat + 256 * num l) % 256 = b.toNat from by omega, show (b.toNat + 256 * num l) / 256 = num l from by omega]
theorem turned_take {a b : List UInt8} {X at' k : Nat} (hl : b.length = a.length) (hk : k ≤ a.length) (ha : 8 * k ≤ at') (hn : num b = num a ^^^ (X * 2 ^ at')) : b.take k = a.take k := by
  apply num_inj
  · rw [List.length_take, List.length_take, hl]
  · rw [num_take _ _ (by omega), num_take _ _ hk, hn, show (256 : Nat) ^ k = 2 ^ (8 * k) from by rw [Nat.pow_mul], Nat.xor_mod_two_pow]
    have : (X * 2 ^ at') % 2 ^ (8 * k) = 0 := by
      apply Nat.mod_eq_zero_of_dvd
      exact Nat.dvd_trans (Nat.pow_dvd_pow 2 ha) (Nat.dvd_mul_left _ _)
    rw [this, Nat.xor_zero]
theorem frameL_split (b n : Int) (t : List UInt8) : frameL b n t = putL ((bodyL b n t).length : Int) ++ (bodyL b n t ++ four (sum (headL (bodyL b n t)))) := by
  unfold frameL seal' headL
  simp only [List.append_assoc]
theorem turned_noFr {b n : Int} {t c more : List UInt8} {X at' : Nat} (hl : c.length = (frameL b n t).length) (h1 : 8 * (putL ((bodyL b n t).length : Int)).length ≤ at') (h2 : at' < 8 * (frameL b n t).length)
    (hX : X < 4294967296) (hn : num c = num (frameL b n t) ^^^ (X * 2 ^ at')) (hne : c ≠ frameL b n t) : NoFr (c ++ more) := by
  intro b2 n2 t2 r2 ⟨_, he⟩
  have hlen : (frameL b n t).length = (putL ((bodyL b n t).length : Int)).length + ((bodyL b n t).length + 4) := by rw [frameL_len, headL_len]; omega
  have hlen2 : (frameL b2 n2 t2).length = (putL ((bodyL b2 n2 t2).length : Int)).length + ((bodyL b2 n2 t2).length + 4) := by rw [frameL_len, headL_len]; omega
  have ht := turned_take hl (k := (putL ((bodyL b n t).length : Int)).length) (by omega) h1 hn
  have ht2 : (frameL b n t).take (putL ((bodyL b n t).length : Int)).length = putL ((bodyL b n t).length : Int) := by rw [frameL_split, List.take_left]
  rw [ht2] at ht
  have hc : c ++ more = putL ((bodyL b n t).length : Int) ++ (c.drop (putL ((bodyL b n t).length : Int)).length ++ more) := by
    rw [← List.append_assoc, ← ht]
    have h3 : (c.take (putL ((bodyL b n t).length : Int)).length) ++ c.drop (putL ((bodyL b n t).length : Int)).length = c := List.take_append_drop _ _
    rw [ht] at h3 ⊢
    rw [h3]
  have hf2 : frameL b2 n2 t2 ++ r2 = putL ((bodyL b2 n2 t2).length : Int) ++ ((bodyL b2 n2 t2 ++ four (sum (headL (bodyL b2 n2 t2)))) ++ r2) := by
    rw [frameL_split, List.append_assoc]
  have he2 := he
  rw [hc, hf2] at he2
  have hL := (putL_inj_append he2).1
  have hLL : (bodyL b n t).length = (bodyL b2 n2 t2).length := by omega
  have hll : c.length = (frameL b2 n2 t2).length := by rw [hl, hlen, hlen2, hLL]
  have hcc := (List.append_inj he hll).1
  have hU := turned_unseal (l := headL (bodyL b n t)) (b := c) (at' := at') (X := X) hl h2 hX hn hne
  rw [hcc] at hU
  unfold frameL at hU
  rw [unseal_seal] at hU
  simp at hU
end Go.Proofs.Yteckddlcecleaaa.Fm
