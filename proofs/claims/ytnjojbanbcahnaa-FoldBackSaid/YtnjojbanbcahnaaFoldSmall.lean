/- The walks of fold.sum, Sort, rotation and their references. -/
import Derived.Test.YtnjojbanbcahnaaRows
import Derived.Test.YtnjojbanbcahnaaFo
import Derived.Test.YtnjojbanbcahnaaSlice
import Derived.WalkSpells
import Derived.WalkLawsBesides
import Derived.Lib.Hide
import Derived.Laws.Bits64b
import Derived.Laws.ComplexArith
import Derived.Laws.FloatArith
import Derived.Laws.Cover3
import Derived.IntWalk
import Derived.Outline
namespace Go.Proofs.Ytnjojbanbcahnaa
open Go.RowKit Vm Fo
set_option linter.unusedVariables false

set_option maxHeartbeats 1000000 in
theorem sum_walk (a b : Int) (w : World) (ha : I64 a) (hb : I64 b) :
    Calls Try.prog 60 #[.int .i64 a, .int .i64 b] w fun e w' => e = .returned (.int .i64 (sat a b)) ∧ w = w' := by
  unfold I64 at ha hb
  have hs : (0 < b ∧ 9223372036854775807 - b < a ∧ sat a b = 9223372036854775807) ∨ (0 < b ∧ ¬ 9223372036854775807 - b < a ∧ sat a b = a + b) ∨ (¬ 0 < b ∧ b < 0 ∧ a < -9223372036854775808 - b ∧ sat a b = -9223372036854775808) ∨ (¬ 0 < b ∧ b < 0 ∧ ¬ a < -9223372036854775808 - b ∧ sat a b = a + b) ∨ (¬ 0 < b ∧ ¬ b < 0 ∧ sat a b = a + b) := by
    unfold sat Top Bot
    by_cases h1 : 0 < b
    · by_cases h2 : 9223372036854775807 - b < a
      · left; exact ⟨h1, h2, by rw [if_pos (by omega)]⟩
      · right; left; exact ⟨h1, h2, by rw [if_neg (by omega), if_neg (by omega)]⟩
    · by_cases h2 : b < 0
      · by_cases h3 : a < -9223372036854775808 - b
        · right; right; left; exact ⟨h1, h2, h3, by rw [if_neg (by omega), if_pos (by omega)]⟩
        · right; right; right; left; exact ⟨h1, h2, h3, by rw [if_neg (by omega), if_neg (by omega)]⟩
      · right; right; right; right; exact ⟨h1, h2, by rw [if_neg (by omega), if_neg (by omega)]⟩
  rcases hs with ⟨h1, h2, h3⟩ | ⟨h1, h2, h3⟩ | ⟨h1, h2, h3, h4⟩ | ⟨h1, h2, h3, h4⟩ | ⟨h1, h2, h3⟩
  · have H := Lib.hid h3
    clear h3
    go_enter Try.func60, Try.ntmps60
    go_wp2
    go_ret
    exact ⟨by rw [H.out]; rfl, rfl⟩
  · have h4 : ¬ b < 0 := by omega
    have H := Lib.hid h3
    clear h3
    go_enter Try.func60, Try.ntmps60
    go_wp2
    go_ret
    exact ⟨by rw [H.out]; rfl, rfl⟩
  · have H := Lib.hid h4
    clear h4
    go_enter Try.func60, Try.ntmps60
    go_wp2
    go_ret
    exact ⟨by rw [H.out]; rfl, rfl⟩
  · have H := Lib.hid h4
    clear h4
    go_enter Try.func60, Try.ntmps60
    go_wp2
    go_ret
    exact ⟨by rw [H.out]; rfl, rfl⟩
  · have H := Lib.hid h3
    clear h3
    go_enter Try.func60, Try.ntmps60
    go_wp2
    go_ret
    exact ⟨by rw [H.out]; rfl, rfl⟩

set_option maxHeartbeats 1000000 in
theorem sort_walk (v : Int) (w : World) :
    Calls Try.prog 34 #[.int .i64 v] w fun e w' => e = .returned (.int .i64 (srt v : Int)) ∧ w = w' := by
  have hs : (v < 0 ∧ srt v = 0) ∨ (¬ v < 0 ∧ v < 10 ∧ srt v = 1) ∨ (¬ v < 0 ∧ ¬ v < 10 ∧ v < 100 ∧ srt v = 2) ∨ (¬ v < 0 ∧ ¬ v < 10 ∧ ¬ v < 100 ∧ srt v = 3) := by
    unfold srt
    by_cases h1 : v < 0
    · left; exact ⟨h1, by rw [if_pos h1]⟩
    · by_cases h2 : v < 10
      · right; left; exact ⟨h1, h2, by rw [if_neg h1, if_pos h2]⟩
      · by_cases h3 : v < 100
        · right; right; left; exact ⟨h1, h2, h3, by rw [if_neg h1, if_neg h2, if_pos h3]⟩
        · right; right; right; exact ⟨h1, h2, h3, by rw [if_neg h1, if_neg h2, if_neg h3]⟩
  rcases hs with ⟨h1, h⟩ | ⟨h1, h2, h⟩ | ⟨h1, h2, h3, h⟩ | ⟨h1, h2, h3, h⟩
  all_goals
    rw [h]
    clear h
    go_enter Try.func34, Try.ntmps34
    go_wp2
    go_ret
    exact ⟨rfl, rfl⟩

def fone : Nat := 4607182418800017408
def fneg : Nat := 13830554455654793216
def fmin0 : Nat := 9223372036854775808
def rre (k : Nat) : Nat := match k with | 0 => fone | 1 => 0 | 2 => fneg | _ => fmin0
def rim (k : Nat) : Nat := match k with | 0 => 0 | 1 => fone | 2 => 0 | _ => fneg
theorem turn_next (k : Nat) (h : k < 3) : cMulBits (rre k) (rim k) 0 4607182418800017408 = some (rre (k + 1), rim (k + 1)) := by
  match k, h with
  | 0, _ => decide +kernel
  | 1, _ => decide +kernel
  | 2, _ => decide +kernel
theorem turn_re (k : Nat) (h : k < 4) : floatToIntVal .f64 (rre k) .i64 = some (if k = 0 then 1 else if k = 2 then -1 else 0) := by
  match k, h with
  | 0, _ => decide +kernel
  | 1, _ => decide +kernel
  | 2, _ => decide +kernel
  | 3, _ => decide +kernel
theorem turn_im (k : Nat) (h : k < 4) : floatToIntVal .f64 (rim k) .i64 = some (if k = 1 then 1 else if k = 3 then -1 else 0) := by
  match k, h with
  | 0, _ => decide +kernel
  | 1, _ => decide +kernel
  | 2, _ => decide +kernel
  | 3, _ => decide +kernel

theorem and3 (v : Int) (h : I64 v) : bits .and .i64 v 3 = v % 4 := by
  unfold I64 at h
  have h1 : (BitVec.ofInt 64 v).toNat = (v % 18446744073709551616).toNat := by rw [BitVec.toNat_ofInt]; rfl
  show IntKind.i64.wrap ((BitVec.ofInt 64 v &&& BitVec.ofInt 64 3).toNat : Int) = _
  rw [BitVec.toNat_and, h1, show (BitVec.ofInt 64 3).toNat = 2 ^ 2 - 1 from by decide, Nat.and_two_pow_sub_one_eq_mod]
  rw [IntWalk.i64_in _ (by omega)]
  omega

set_option maxRecDepth 100000 in
set_option maxHeartbeats 1000000 in
theorem rotation_walk (v : Int) (w : World) (hv : I64 v) :
    Calls Try.prog 61 #[.int .i64 v] w fun e w' => e = .returned (.complex .f64 (rre (v % 4).toNat) (rim (v % 4).toNat)) ∧ w = w' := by
  have ha := and3 v hv
  obtain ⟨r, hr⟩ : ∃ r : Nat, v % 4 = (r : Int) := ⟨(v % 4).toNat, by omega⟩
  have hr4 : r < 4 := by omega
  rw [hr] at ha
  rw [hr, Int.toNat_natCast]
  have HR := Lib.hid hr
  have hone : (4607182418800017408 : Nat) = rre 0 := rfl
  have h0 : (0 : Nat) = rim 0 := rfl
  have HONE := Lib.hid hone
  have H0 := Lib.hid h0
  clear hr hone h0
  go_enter Try.func61, Try.ntmps61
  go_wp2
  go_loop [3, 6] (fun t i => ∃ k : Nat, k ≤ r ∧ i = .int .i64 k ∧ t = .complex .f64 (rre k) (rim k)) (fun _ i => r - (intOf i).toNat)
  case atStart => exact ⟨0, by omega, rfl, rfl⟩
  case round =>
    obtain ⟨k, hk, rfl, rfl⟩ := hrel
    by_cases hlt : k < r
    · have hmul := fun (w : World) => run_complex_mul (P := Try.prog) w 99 _ _ _ _ _ _ (turn_next k (by omega))
      go_wp2
      go_round
      case rel => exact ⟨k + 1, by omega, by go_num, rfl⟩
      case measure => simp [intOf]; omega
    · have hkr : k = r := by omega
      subst hkr
      go_wp2
      go_ret
      exact ⟨rfl, rfl⟩
end Go.Proofs.Ytnjojbanbcahnaa
