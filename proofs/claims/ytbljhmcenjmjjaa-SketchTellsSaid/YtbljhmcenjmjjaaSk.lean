/- Plain mathematics of chapter 29: buckets and their ends. No program is imported. -/
import Derived.Test.YtbljhmcenjmjjaaVm
namespace Go.Proofs.Ytbljhmcenjmjjaa.Sk
open Vm
set_option linter.unusedVariables false

/-- The bucket of a number that is not below 0. -/
def ofN (v : Nat) : Nat := if v < 32 then v else 16 + ofN (v / 2)
termination_by v
decreasing_by omega
theorem ofN_small {v : Nat} (h : v < 32) : ofN v = v := by rw [ofN, if_pos h]
theorem ofN_big {v : Nat} (h : ¬ v < 32) : ofN v = 16 + ofN (v / 2) := by rw [ofN, if_neg h]
theorem ofN_at (e : Nat) : ∀ m v : Nat, 16 ≤ m → m < 32 → m * 2 ^ e ≤ v → v < (m + 1) * 2 ^ e → ofN v = 16 * e + m := by
  induction e with
  | zero => intro m v h1 h2 h3 h4; simp at h3 h4; rw [ofN_small (by omega)]; omega
  | succ e ih =>
    intro m v h1 h2 h3 h4
    rw [Nat.pow_succ, ← Nat.mul_assoc] at h3 h4
    have hp : 1 ≤ 2 ^ e := Nat.two_pow_pos e
    have : 16 * 1 ≤ m * 2 ^ e := Nat.mul_le_mul h1 hp
    rw [ofN_big (by omega), ih m (v / 2) h1 h2 (by omega) (by omega)]
    omega
theorem ofN_ex (v : Nat) : 16 ≤ v → ∃ e m, 16 ≤ m ∧ m < 32 ∧ m * 2 ^ e ≤ v ∧ v < (m + 1) * 2 ^ e := by
  induction v using Nat.strongRecOn with
  | _ v ih =>
    intro h
    by_cases hs : v < 32
    · exact ⟨0, v, h, hs, by simp, by simp⟩
    · obtain ⟨e, m, h1, h2, h3, h4⟩ := ih (v / 2) (by omega) (by omega)
      refine ⟨e + 1, m, h1, h2, ?_, ?_⟩
      · rw [Nat.pow_succ, ← Nat.mul_assoc]; omega
      · rw [Nat.pow_succ, ← Nat.mul_assoc]; omega
theorem exp_le {e m v : Nat} (h1 : 16 ≤ m) (h3 : m * 2 ^ e ≤ v) (hv : v < 9223372036854775808) : e ≤ 58 := by
  apply Classical.byContradiction
  intro hc
  have h5 : 2 ^ 59 ≤ 2 ^ e := Nat.pow_le_pow_right (by omega) (by omega)
  have h6 : 16 * 2 ^ 59 ≤ m * 2 ^ e := Nat.mul_le_mul h1 h5
  omega
def lowN (b : Nat) : Nat := if b < 32 then b else (b - 16 * (b / 16 - 1)) * 2 ^ (b / 16 - 1)
def highN (b : Nat) : Nat := if b < 32 then b else (b - 16 * (b / 16 - 1)) * 2 ^ (b / 16 - 1) + (2 ^ (b / 16 - 1) - 1)
theorem ends_at {e m : Nat} (h1 : 16 ≤ m) (h2 : m < 32) : lowN (16 * e + m) = m * 2 ^ e ∧ highN (16 * e + m) = (m + 1) * 2 ^ e - 1 := by
  have hp : 1 ≤ 2 ^ e := Nat.two_pow_pos e
  unfold lowN highN
  by_cases he : 16 * e + m < 32
  · have : e = 0 := by omega
    subst this
    rw [if_pos he, if_pos he]; simp
  · rw [if_neg he, if_neg he, show (16 * e + m) / 16 - 1 = e from by omega, show 16 * e + m - 16 * e = m from by omega, Nat.add_mul]
    omega
/-- The ends of a number's bucket. -/
theorem ends_of {v : Nat} (hv : v < 9223372036854775808) :
    ofN v < 960 ∧ lowN (ofN v) ≤ v ∧ v ≤ highN (ofN v) ∧ ofN (lowN (ofN v)) = ofN v ∧ ofN (highN (ofN v)) = ofN v ∧ highN (ofN v) - lowN (ofN v) ≤ lowN (ofN v) / 16 ∧ highN (ofN v) < 9223372036854775808 := by
  by_cases hs : v < 16
  · have e : ofN v = v := ofN_small (by omega)
    have l : lowN v = v := by unfold lowN; rw [if_pos (by omega)]
    have h : highN v = v := by unfold highN; rw [if_pos (by omega)]
    rw [e, l, h, e]
    omega
  · obtain ⟨e, m, h1, h2, h3, h4⟩ := ofN_ex v (by omega)
    have he := exp_le h1 h3 hv
    have ho := ofN_at e m v h1 h2 h3 h4
    obtain ⟨el, eh⟩ := ends_at (e := e) h1 h2
    have hp : 1 ≤ 2 ^ e := Nat.two_pow_pos e
    have ha : (m + 1) * 2 ^ e = m * 2 ^ e + 2 ^ e := by rw [Nat.add_mul]; omega
    have h16 : 16 * 2 ^ e ≤ m * 2 ^ e := Nat.mul_le_mul_right _ h1
    have hb : (m + 1) * 2 ^ e ≤ 32 * 2 ^ 58 := Nat.mul_le_mul (by omega) (Nat.pow_le_pow_right (by omega) he)
    rw [ho, el, eh, ofN_at e m (m * 2 ^ e) h1 h2 (Nat.le_refl _) (by omega), ofN_at e m ((m + 1) * 2 ^ e - 1) h1 h2 (by omega) (by omega)]
    refine ⟨by omega, h3, by omega, rfl, rfl, ?_, by omega⟩
    rw [ha, show m * 2 ^ e + 2 ^ e - 1 - m * 2 ^ e = 2 ^ e - 1 from by omega]
    have : 2 ^ e ≤ m * 2 ^ e / 16 := by omega
    omega
theorem ofN_mono {v w : Nat} (h : v ≤ w) : ofN v ≤ ofN w := by
  by_cases hs : w < 16
  · rw [ofN_small (by omega), ofN_small (by omega)]; exact h
  · obtain ⟨e', m', k1, k2, k3, k4⟩ := ofN_ex w (by omega)
    rw [ofN_at e' m' w k1 k2 k3 k4]
    by_cases hv : v < 16
    · rw [ofN_small (by omega)]; omega
    · obtain ⟨e, m, h1, h2, h3, h4⟩ := ofN_ex v (by omega)
      rw [ofN_at e m v h1 h2 h3 h4]
      rcases Nat.lt_trichotomy e e' with hl | hl | hl
      · omega
      · subst hl
        have : m < m' + 1 := Nat.lt_of_mul_lt_mul_right (Nat.lt_of_le_of_lt (Nat.le_trans h3 h) k4)
        omega
      · exfalso
        have p1 : 2 ^ (e' + 1) ≤ 2 ^ e := Nat.pow_le_pow_right (by omega) hl
        have p2 : 16 * 2 ^ (e' + 1) ≤ m * 2 ^ e := Nat.mul_le_mul h1 p1
        have p3 : (m' + 1) * 2 ^ e' ≤ 32 * 2 ^ e' := Nat.mul_le_mul_right _ (by omega)
        rw [Nat.pow_succ] at p2
        omega
def ofI (v : Int) : Int := if v < 0 then -1 - (ofN (-1 - v).toNat : Int) else (ofN v.toNat : Int)
def bucketI (b : Int) : Prop := -960 ≤ b ∧ b < 960
def lowI (b : Int) : Int := if b < 0 then -1 - (highN (-1 - b).toNat : Int) else (lowN b.toNat : Int)
def highI (b : Int) : Int := if b < 0 then -1 - (lowN (-1 - b).toNat : Int) else (highN b.toNat : Int)
/-- What 29.1 and 29.5 say of a number and its bucket. -/
theorem tells {v : Int} (hv : I64 v) : bucketI (ofI v) ∧ lowI (ofI v) ≤ v ∧ v ≤ highI (ofI v) ∧ ofI (lowI (ofI v)) = ofI v ∧ ofI (highI (ofI v)) = ofI v ∧
    (0 ≤ lowI (ofI v) → highI (ofI v) - lowI (ofI v) ≤ lowI (ofI v) / 16) ∧ (lowI (ofI v) < 0 → highI (ofI v) < 0 ∧ highI (ofI v) - lowI (ofI v) ≤ (-1 - highI (ofI v)) / 16) ∧ I64 (lowI (ofI v)) ∧ I64 (highI (ofI v)) := by
  unfold I64 at hv
  by_cases hn : v < 0
  · obtain ⟨u, hu⟩ : ∃ u : Nat, (-1 - v).toNat = u := ⟨_, rfl⟩
    have hu2 : v = -1 - (u : Int) := by omega
    have hu3 : u < 9223372036854775808 := by omega
    obtain ⟨t1, t2, t3, t4, t5, t6, t7⟩ := ends_of hu3
    have e : ofI v = -1 - (ofN u : Int) := by unfold ofI; rw [if_pos hn, hu]
    have el : lowI (ofI v) = -1 - (highN (ofN u) : Int) := by unfold lowI; rw [e, if_pos (by omega), show (-1 - (-1 - (ofN u : Int))).toNat = ofN u from by omega]
    have eh : highI (ofI v) = -1 - (lowN (ofN u) : Int) := by unfold highI; rw [e, if_pos (by omega), show (-1 - (-1 - (ofN u : Int))).toNat = ofN u from by omega]
    have ol : ofI (-1 - (highN (ofN u) : Int)) = -1 - (ofN u : Int) := by unfold ofI; rw [if_pos (by omega), show (-1 - (-1 - (highN (ofN u) : Int))).toNat = highN (ofN u) from by omega, t5]
    have oh : ofI (-1 - (lowN (ofN u) : Int)) = -1 - (ofN u : Int) := by unfold ofI; rw [if_pos (by omega), show (-1 - (-1 - (lowN (ofN u) : Int))).toNat = lowN (ofN u) from by omega, t4]
    rw [el, eh, e, ol, oh]
    unfold bucketI I64
    refine ⟨by omega, by omega, by omega, rfl, rfl, by omega, by omega, by omega, by omega⟩
  · obtain ⟨u, hu⟩ : ∃ u : Nat, v.toNat = u := ⟨_, rfl⟩
    have hu2 : v = (u : Int) := by omega
    have hu3 : u < 9223372036854775808 := by omega
    obtain ⟨t1, t2, t3, t4, t5, t6, t7⟩ := ends_of hu3
    have e : ofI v = (ofN u : Int) := by unfold ofI; rw [if_neg hn, hu]
    have el : lowI (ofI v) = (lowN (ofN u) : Int) := by unfold lowI; rw [e, if_neg (by omega)]; rfl
    have eh : highI (ofI v) = (highN (ofN u) : Int) := by unfold highI; rw [e, if_neg (by omega)]; rfl
    have ol : ofI (lowN (ofN u) : Int) = (ofN u : Int) := by unfold ofI; rw [if_neg (by omega), Int.toNat_natCast, t4]
    have oh : ofI (highN (ofN u) : Int) = (ofN u : Int) := by unfold ofI; rw [if_neg (by omega), Int.toNat_natCast, t5]
    rw [el, eh, e, ol, oh]
    unfold bucketI I64
    refine ⟨by omega, by omega, by omega, rfl, rfl, by omega, by omega, by omega, by omega⟩
theorem ofI_mono {v w : Int} (h : v ≤ w) : ofI v ≤ ofI w := by
  unfold ofI
  by_cases hv : v < 0
  · rw [if_pos hv]
    by_cases hw : w < 0
    · rw [if_pos hw]
      have := ofN_mono (v := (-1 - w).toNat) (w := (-1 - v).toNat) (by omega)
      omega
    · rw [if_neg hw]; omega
  · rw [if_neg hv, if_neg (by omega)]
    have := ofN_mono (v := v.toNat) (w := w.toNat) (by omega)
    omega
end Go.Proofs.Ytbljhmcenjmjjaa.Sk
