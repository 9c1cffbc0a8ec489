/- The walks of headgateref15.Plus and Sort. -/
import Derived.Test.YtnjojbanbcahnaaFoldSmall
namespace Go.Proofs.Ytnjojbanbcahnaa
open Go.RowKit Vm Fo
set_option linter.unusedVariables false

set_option maxHeartbeats 1000000 in
theorem plus_walk (a b : Int) (w : World) (ha : I64 a) (hb : I64 b) :
    Calls Try.prog 62 #[.int .i64 a, .int .i64 b] w fun e w' => e = .returned (.int .i64 (sat a b)) ∧ w = w' := by
  unfold I64 at ha hb
  have hs : (0 < b ∧ 9223372036854775807 - b < a ∧ sat a b = 9223372036854775807) ∨ (0 < b ∧ ¬ 9223372036854775807 - b < a ∧ sat a b = a + b) ∨ (¬ 0 < b ∧ b < 0 ∧ a < -9223372036854775808 - b ∧ sat a b = -9223372036854775808) ∨ (¬ 0 < b ∧ b < 0 ∧ ¬ a < -9223372036854775808 - b ∧ sat a b = a + b) ∨ (¬ 0 < b ∧ ¬ b < 0 ∧ sat a b = a + b) := by
    unfold sat Top Bot
    by_cases h1 : 0 < b
    · by_cases h2 : 9223372036854775807 - b < a
      · left; exact ⟨h1, h2, by rw [if_pos (by omega)]⟩
      · right; left; exact ⟨h1, h2, by rw [if_neg (by omega), if_neg (by omega)]⟩
    · by_cases h2 : b < 0
      · by_cases h3 : a < -9223372036854775808 - b
        · right; right; left; exact ⟨h1, h2, h3, by rw [if_neg (by omega), if_pos (by omega)]⟩
        · right; right; right; left; exact ⟨h1, h2, h3, by rw [if_neg (by omega), if_neg (by omega)]⟩
      · right; right; right; right; exact ⟨h1, h2, by rw [if_neg (by omega), if_neg (by omega)]⟩
  rcases hs with ⟨h1, h2, h3⟩ | ⟨h1, h2, h3⟩ | ⟨h1, h2, h4, h3⟩ | ⟨h1, h2, h4, h3⟩ | ⟨h1, h2, h3⟩
  all_goals
    have H := Lib.hid h3
    clear h3
    first | (have h5 : ¬ b < 0 := by omega) | skip
    go_enter Try.func62, Try.ntmps62
    go_wp2
    go_ret
    exact ⟨by rw [H.out]; rfl, rfl⟩

set_option maxHeartbeats 1000000 in
theorem ref_sort_walk (v : Int) (w : World) :
    Calls Try.prog 35 #[.int .i64 v] w fun e w' => e = .returned (.int .i64 (srt v : Int)) ∧ w = w' := by
  have hs : (100 ≤ v ∧ srt v = 3) ∨ (¬ 100 ≤ v ∧ 10 ≤ v ∧ srt v = 2) ∨ (¬ 100 ≤ v ∧ ¬ 10 ≤ v ∧ 0 ≤ v ∧ srt v = 1) ∨ (¬ 100 ≤ v ∧ ¬ 10 ≤ v ∧ ¬ 0 ≤ v ∧ srt v = 0) := by
    unfold srt
    by_cases h1 : v < 0
    · right; right; right; exact ⟨by omega, by omega, by omega, by rw [if_pos h1]⟩
    · by_cases h2 : v < 10
      · right; right; left; exact ⟨by omega, by omega, by omega, by rw [if_neg h1, if_pos h2]⟩
      · by_cases h3 : v < 100
        · right; left; exact ⟨by omega, by omega, by rw [if_neg h1, if_neg h2, if_pos h3]⟩
        · left; exact ⟨by omega, by rw [if_neg h1, if_neg h2, if_neg h3]⟩
  rcases hs with ⟨h1, h⟩ | ⟨h1, h2, h⟩ | ⟨h1, h2, h3, h⟩ | ⟨h1, h2, h3, h⟩
  all_goals
    rw [h]
    clear h
    go_enter Try.func35, Try.ntmps35
    go_wp2
    go_ret
    exact ⟨rfl, rfl⟩
end Go.Proofs.Ytnjojbanbcahnaa
