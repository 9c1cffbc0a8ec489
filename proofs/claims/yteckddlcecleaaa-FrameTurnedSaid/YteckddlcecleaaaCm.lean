/- Plain mathematics of chapter 2: the check sum, on numbers and lists. No program is imported. -/
import Derived.Test.YteckddlcecleaaaVm
namespace Go.Proofs.Yteckddlcecleaaa.Cm
open Vm

/-- One step of the register. -/
def stp (r : Nat) : Nat := if r % 2 = 1 then (r / 2) ^^^ 2197175160 else r / 2
def steps : Nat → Nat → Nat
  | 0, r => r
  | k + 1, r => steps k (stp r)
def byte (r : Nat) (b : UInt8) : Nat := steps 8 (r ^^^ b.toNat)
def reg (r : Nat) (l : List UInt8) : Nat := l.foldl byte r
def more (c : Nat) (l : List UInt8) : Nat := 4294967295 - reg (4294967295 - c) l
def sum (l : List UInt8) : Nat := more 0 l
def four (c : Nat) : List UInt8 := [UInt8.ofNat c, UInt8.ofNat (c / 256), UInt8.ofNat (c / 65536), UInt8.ofNat (c / 16777216)]
def seal' (l : List UInt8) : List UInt8 := l ++ four (sum l)

theorem stp_lt {r : Nat} (h : r < 4294967296) : stp r < 4294967296 := by
  unfold stp
  split
  · exact Nat.xor_lt_two_pow (n := 32) (by omega) (by omega)
  · omega
theorem steps_lt (k : Nat) : ∀ {r : Nat}, r < 4294967296 → steps k r < 4294967296 := by
  induction k with
  | zero => intro r h; exact h
  | succ k ih => intro r h; exact ih (stp_lt h)
theorem byte_lt {r : Nat} (h : r < 4294967296) (b : UInt8) : byte r b < 4294967296 := by
  have := b.toNat_lt
  exact steps_lt 8 (Nat.xor_lt_two_pow (n := 32) h (by omega))
theorem reg_lt (l : List UInt8) : ∀ {r : Nat}, r < 4294967296 → reg r l < 4294967296 := by
  induction l with
  | nil => intro r h; exact h
  | cons b l ih => intro r h; exact ih (byte_lt h b)
theorem reg_append (a b : List UInt8) (r : Nat) : reg r (a ++ b) = reg (reg r a) b := by simp [reg]
theorem reg_snoc (a : List UInt8) (b : UInt8) (r : Nat) : reg r (a ++ [b]) = byte (reg r a) b := by simp [reg]
theorem more_lt (c : Nat) (l : List UInt8) : more c l < 4294967296 := by unfold more; omega
theorem more_nil {c : Nat} (h : c < 4294967296) : more c [] = c := by unfold more reg; simp; omega
theorem more_append (c : Nat) (a b : List UInt8) : more (more c a) b = more c (a ++ b) := by
  unfold more
  rw [reg_append]
  have := reg_lt a (r := 4294967295 - c) (by omega)
  rw [show 4294967295 - (4294967295 - reg (4294967295 - c) a) = reg (4294967295 - c) a from by omega]
theorem four_length (c : Nat) : (four c).length = 4 := rfl
def fourN : Nat → Nat → List UInt8
  | 0, _ => []
  | n + 1, c => UInt8.ofNat c :: fourN n (c / 256)
theorem four_eq (c : Nat) : four c = fourN 4 c := by
  simp [four, fourN, Nat.div_div_eq_div_mul]
theorem ofNat_inj {a b : Nat} (h : UInt8.ofNat a = UInt8.ofNat b) : a % 256 = b % 256 := by
  have := congrArg UInt8.toNat h
  simpa using this
theorem four_inj {a b : Nat} (ha : a < 4294967296) (hb : b < 4294967296) (h : four a = four b) : a = b := by
  unfold four at h
  injection h with h0 h
  injection h with h1 h
  injection h with h2 h
  injection h with h3 _
  have := ofNat_inj h0
  have := ofNat_inj h1
  have := ofNat_inj h2
  have := ofNat_inj h3
  omega
/-- A sealed text without its sum, or nothing. -/
def unsealA (s : List UInt8) : List UInt8 × Int :=
  if s.length < 4 then ([], 2) else if s.drop (s.length - 4) = four (sum (s.take (s.length - 4))) then (s.take (s.length - 4), 0) else ([], 2)
theorem unseal_seal (l : List UInt8) : unsealA (seal' l) = (l, 0) := by
  unfold unsealA seal'
  have h4 := four_length (sum l)
  rw [if_neg (by simp [h4])]
  have e : (l ++ four (sum l)).length - 4 = l.length := by simp [h4]
  rw [e]
  simp
theorem unseal_cases (s : List UInt8) : unsealA s = ([], 2) ∨ ∃ p, unsealA s = (p, 0) ∧ s = seal' p := by
  unfold unsealA
  split
  · exact .inl rfl
  · split
    · next h => exact .inr ⟨_, rfl, by unfold seal'; rw [← h]; simp⟩
    · exact .inl rfl

/-! ### The register is linear, and each step can be undone -/
theorem xor_div2 (a b : Nat) : (a ^^^ b) / 2 = (a / 2) ^^^ (b / 2) := by
  have := Nat.shiftRight_xor_distrib (a := a) (b := b) (i := 1)
  simpa [Nat.shiftRight_eq_div_pow] using this
theorem xor_mod2 (a b : Nat) : (a ^^^ b) % 2 = (a % 2 + b % 2) % 2 := by
  have h := Nat.xor_mod_two_pow (a := a) (b := b) (n := 1)
  rw [show (2 : Nat) ^ 1 = 2 from rfl] at h
  rw [h]
  rcases Nat.mod_two_eq_zero_or_one a with ha | ha <;> rcases Nat.mod_two_eq_zero_or_one b with hb | hb <;> rw [ha, hb] <;> rfl
theorem stp_xor (a b : Nat) : stp (a ^^^ b) = stp a ^^^ stp b := by
  unfold stp
  rw [xor_div2, xor_mod2]
  rcases Nat.mod_two_eq_zero_or_one a with ha | ha <;> rcases Nat.mod_two_eq_zero_or_one b with hb | hb <;> simp [ha, hb]
  · rw [Nat.xor_assoc]
  · rw [Nat.xor_assoc, Nat.xor_assoc, Nat.xor_comm 2197175160]
  · rw [Nat.xor_assoc, ← Nat.xor_assoc 2197175160, Nat.xor_comm 2197175160, Nat.xor_assoc, Nat.xor_self, Nat.xor_zero]
theorem stp_zero : stp 0 = 0 := by decide
theorem steps_xor (k : Nat) : ∀ a b, steps k (a ^^^ b) = steps k a ^^^ steps k b := by
  induction k with
  | zero => intro a b; rfl
  | succ k ih => intro a b; rw [steps, stp_xor, ih]; rfl
theorem steps_zero (k : Nat) : steps k 0 = 0 := by
  induction k with
  | zero => rfl
  | succ k ih => rw [steps, stp_zero, ih]
theorem steps_add (j k : Nat) (r : Nat) : steps (j + k) r = steps k (steps j r) := by
  induction j generalizing r with
  | zero => simp [steps]
  | succ j ih => rw [Nat.succ_add, steps, ih, steps]
theorem stp_ne {r : Nat} (h : r < 4294967296) (hr : r ≠ 0) : stp r ≠ 0 := by
  unfold stp
  split
  · next h1 =>
    intro e
    have h2 : (r / 2 ^^^ 2197175160).testBit 31 = true := by
      rw [Nat.testBit_xor, Nat.testBit_lt_two_pow (show r / 2 < 2 ^ 31 by omega)]
      decide
    rw [e] at h2; simp at h2
  · omega
theorem steps_ne (k : Nat) : ∀ {r : Nat}, r < 4294967296 → r ≠ 0 → steps k r ≠ 0 := by
  induction k with
  | zero => intro r _ h; exact h
  | succ k ih => intro r h hr; exact ih (stp_lt h) (stp_ne h hr)
theorem xor_eq_zero {a b : Nat} (h : a ^^^ b = 0) : a = b := by
  have := congrArg (fun x => x ^^^ b) h
  simpa [Nat.xor_assoc] using this
theorem steps_inj (k : Nat) {a b : Nat} (ha : a < 4294967296) (hb : b < 4294967296) (h : steps k a = steps k b) : a = b := by
  apply xor_eq_zero
  apply Classical.byContradiction
  intro hne
  have := steps_ne k (r := a ^^^ b) (Nat.xor_lt_two_pow (n := 32) ha hb) hne
  rw [steps_xor, h, Nat.xor_self] at this
  exact this rfl
/-- Bits that lie above go down unharmed. -/
theorem steps_up (k y : Nat) : steps k (y * 2 ^ k) = y := by
  induction k generalizing y with
  | zero => simp [steps]
  | succ k ih =>
    rw [steps]
    have e : stp (y * 2 ^ (k + 1)) = y * 2 ^ k := by
      unfold stp
      rw [Nat.pow_succ, ← Nat.mul_assoc, if_neg (by omega)]
      omega
    rw [e, ih]
theorem split_xor (a k : Nat) : a = (a % 2 ^ k) ^^^ (a / 2 ^ k * 2 ^ k) := by
  have h1 := Nat.two_pow_add_eq_or_of_lt (i := k) (b := a % 2 ^ k) (Nat.mod_lt _ (Nat.two_pow_pos k)) (a / 2 ^ k)
  have h2 : a % 2 ^ k ^^^ a / 2 ^ k * 2 ^ k = a % 2 ^ k ||| a / 2 ^ k * 2 ^ k := by
    apply Nat.eq_of_testBit_eq
    intro i
    rw [Nat.testBit_xor, Nat.testBit_or, Nat.testBit_mod_two_pow, Nat.testBit_mul_two_pow]
    by_cases hi : i < k
    · simp [hi, show ¬ k ≤ i by omega]
    · simp [hi]
  rw [h2, Nat.or_comm, Nat.mul_comm, ← h1]
  exact (Nat.div_add_mod a (2 ^ k)).symm
theorem steps_split (k r a : Nat) : steps k (r ^^^ a) = steps k (r ^^^ (a % 2 ^ k)) ^^^ (a / 2 ^ k) := by
  have e : r ^^^ a = (r ^^^ (a % 2 ^ k)) ^^^ (a / 2 ^ k * 2 ^ k) := by rw [Nat.xor_assoc, ← split_xor]
  rw [e, steps_xor, steps_up]
theorem byte_mod (c : Nat) : (UInt8.ofNat c).toNat = c % 2 ^ 8 := by simp
theorem reg_fourN (n : Nat) : ∀ (r a : Nat), a < 256 ^ n → reg r (fourN n a) = steps (8 * n) (r ^^^ a) := by
  induction n with
  | zero => intro r a h; simp at h; subst h; simp [reg, fourN, steps]
  | succ n ih =>
    intro r a h
    have e : reg r (fourN (n + 1) a) = reg (byte r (UInt8.ofNat a)) (fourN n (a / 256)) := rfl
    rw [e, ih _ _ (by rw [Nat.pow_succ] at h; omega)]
    rw [show 8 * (n + 1) = 8 + 8 * n from by omega, steps_add, steps_split 8 r a]
    unfold byte
    rw [byte_mod]
/-- Behind any text unlike four bytes lead to unlike registers. -/
theorem reg_four (r a : Nat) (h : a < 4294967296) : reg r (four a) = steps 32 (r ^^^ a) := by
  rw [four_eq, reg_fourN 4 r a (by omega)]
theorem sum_four {l : List UInt8} {a b : Nat} (ha : a < 4294967296) (hb : b < 4294967296) (h : sum (l ++ four a) = sum (l ++ four b)) : a = b := by
  unfold sum more at h
  rw [reg_append, reg_append, reg_four _ _ ha, reg_four _ _ hb] at h
  have hr := reg_lt l (r := 4294967295 - 0) (by omega)
  have h1 := steps_lt 32 (Nat.xor_lt_two_pow (n := 32) hr ha)
  have h2 := steps_lt 32 (Nat.xor_lt_two_pow (n := 32) hr hb)
  have h3 := steps_inj 32 (Nat.xor_lt_two_pow (n := 32) hr ha) (Nat.xor_lt_two_pow (n := 32) hr hb) (by omega)
  have h4 := congrArg (fun x => reg (4294967295 - 0) l ^^^ x) h3
  simpa [← Nat.xor_assoc] using h4
end Go.Proofs.Yteckddlcecleaaa.Cm
