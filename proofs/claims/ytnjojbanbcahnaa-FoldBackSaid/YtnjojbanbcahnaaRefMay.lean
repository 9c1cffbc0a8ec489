/- The walk of headgateref15.May. -/
import Derived.Test.YtnjojbanbcahnaaFoldAdd
import Derived.Test.YtnjojbanbcahnaaMay
import Derived.BigQuiet
import Derived.WalkSmall
namespace Go.Proofs.Ytnjojbanbcahnaa
open Go.RowKit Vm Fo
set_option linter.unusedVariables false

set_option maxRecDepth 100000 in
set_option maxHeartbeats 4000000 in
theorem may_walk (a : Ag) (w : World) (ha : AgWf a) :
    Calls Try.prog 63 #[av a] w fun e w' => e = .returned (.bool (decide (May a))) ∧ Below w.heap.size w w' := by
  have hno : ¬ May a → decide (May a) = false := fun h => decide_eq_false h
  have hyes : May a → decide (May a) = true := fun h => decide_eq_true h
  have hmy : May a → 1 ≤ a.count ∧ a.count ≤ 1099511627776 ∧ a.min ≤ a.max ∧ 0 ≤ a.h0 ∧ 0 ≤ a.h1 ∧ 0 ≤ a.h2 ∧ 0 ≤ a.h3 ∧ a.h0 + a.h1 + a.h2 + a.h3 = a.count ∧ a.re + a.im ≤ a.count ∧ a.re - a.im ≤ a.count ∧ -a.re + a.im ≤ a.count ∧ -a.re - a.im ≤ a.count := fun m => ⟨m.1, m.2, m.3, m.4, m.5, m.6, m.7, m.8, m.9, m.10, m.11, m.12⟩
  have hym : 1 ≤ a.count ∧ a.count ≤ 1099511627776 ∧ a.min ≤ a.max ∧ 0 ≤ a.h0 ∧ 0 ≤ a.h1 ∧ 0 ≤ a.h2 ∧ 0 ≤ a.h3 ∧ a.h0 + a.h1 + a.h2 + a.h3 = a.count ∧ a.re + a.im ≤ a.count ∧ a.re - a.im ≤ a.count ∧ -a.re + a.im ≤ a.count ∧ -a.re - a.im ≤ a.count → May a := fun ⟨a1, a2, a3, a4, a5, a6, a7, a8, a9, a10, a11, a12⟩ => ⟨a1, a2, a3, a4, a5, a6, a7, a8, a9, a10, a11, a12⟩
  obtain ⟨c, s, mi, ma, h0, h1, h2, h3, re, im⟩ := a
  obtain ⟨wc, ws, wmi, wma, w0, w1, w2, w3, wr, wi⟩ := ha
  simp only [I64] at wc ws wmi wma w0 w1 w2 w3 wr wi
  simp only at hmy hym
  obtain ⟨K, hK⟩ : ∃ K, decide (May ⟨c, s, mi, ma, h0, h1, h2, h3, re, im⟩) = K := ⟨_, rfl⟩
  rw [hK] at hno hyes ⊢
  have HNO := Lib.hid (fun h => hno (mt hmy h))
  have HYES := Lib.hid (fun h => hyes (hym h))
  clear hno hyes hmy hym hK
  have hal := (Below.refl w.heap.size w).alloc (Nat.le_refl _) (.cells #[.int .i64 c, .int .i64 s, .int .i64 mi, .int .i64 ma, .int .i64 h0, .int .i64 h1, .int .i64 h2, .int .i64 h3, .int .i64 re, .int .i64 im] 53)
  have HAL := Lib.hid hal
  clear hal
  by_cases g1 : c < 1
  · have e : K = false := HNO.out (by omega)
    subst e
    go_enter Try.func63, Try.ntmps63
    go_wp2_with fail
    go_ret
    exact ⟨rfl, HAL.out⟩
  by_cases g2 : 1099511627776 < c
  · have e : K = false := HNO.out (by omega)
    subst e
    go_enter Try.func63, Try.ntmps63
    go_wp2_with fail
    go_ret
    exact ⟨rfl, HAL.out⟩
  by_cases g3 : ma < mi
  · have e : K = false := HNO.out (by omega)
    subst e
    go_enter Try.func63, Try.ntmps63
    go_wp2_with fail
    go_ret
    exact ⟨rfl, HAL.out⟩
  go_enter Try.func63, Try.ntmps63
  go_wp2_with fail
  go_loop [3, 4] (fun S i => (i = .int .i64 0 ∧ S = .int .i64 0) ∨ (i = .int .i64 1 ∧ S = .int .i64 h0 ∧ 0 ≤ h0 ∧ h0 ≤ 1099511627776) ∨ (i = .int .i64 2 ∧ S = .int .i64 (h0 + h1) ∧ 0 ≤ h0 ∧ h0 ≤ 1099511627776 ∧ 0 ≤ h1 ∧ h1 ≤ 1099511627776) ∨ (i = .int .i64 3 ∧ S = .int .i64 (h0 + h1 + h2) ∧ 0 ≤ h0 ∧ h0 ≤ 1099511627776 ∧ 0 ≤ h1 ∧ h1 ≤ 1099511627776 ∧ 0 ≤ h2 ∧ h2 ≤ 1099511627776) ∨ (i = .int .i64 4 ∧ S = .int .i64 (h0 + h1 + h2 + h3) ∧ 0 ≤ h0 ∧ h0 ≤ 1099511627776 ∧ 0 ≤ h1 ∧ h1 ≤ 1099511627776 ∧ 0 ≤ h2 ∧ h2 ≤ 1099511627776 ∧ 0 ≤ h3 ∧ h3 ≤ 1099511627776)) (fun _ i => 4 - (intOf i).toNat)
  case atStart => exact .inl ⟨rfl, rfl⟩
  case round =>
    rcases hrel with ⟨rfl, rfl⟩ | ⟨rfl, rfl, p0, q0⟩ | ⟨rfl, rfl, p0, q0, p1, q1⟩ | ⟨rfl, rfl, p0, q0, p1, q1, p2, q2⟩ | ⟨rfl, rfl, p0, q0, p1, q1, p2, q2, p3, q3⟩
    · by_cases r1 : h0 < 0
      · have e : K = false := HNO.out (by omega)
        subst e
        go_wp2_with fail
        go_ret
        exact ⟨rfl, HAL.out⟩
      by_cases r2 : 1099511627776 < h0
      · have e : K = false := HNO.out (by omega)
        subst e
        go_wp2_with fail
        go_ret
        exact ⟨rfl, HAL.out⟩
      go_wp2_with fail
      go_round
      case rel => exact .inr (.inl ⟨by go_num, by go_num, by omega, by omega⟩)
      case measure => simp [intOf]
    · by_cases r1 : h1 < 0
      · have e : K = false := HNO.out (by omega)
        subst e
        go_wp2_with fail
        go_ret
        exact ⟨rfl, HAL.out⟩
      by_cases r2 : 1099511627776 < h1
      · have e : K = false := HNO.out (by omega)
        subst e
        go_wp2_with fail
        go_ret
        exact ⟨rfl, HAL.out⟩
      go_wp2_with fail
      go_round
      case rel => exact .inr (.inr (.inl ⟨by go_num, by go_num, by omega, by omega, by omega, by omega⟩))
      case measure => simp [intOf]
    · by_cases r1 : h2 < 0
      · have e : K = false := HNO.out (by omega)
        subst e
        go_wp2_with fail
        go_ret
        exact ⟨rfl, HAL.out⟩
      by_cases r2 : 1099511627776 < h2
      · have e : K = false := HNO.out (by omega)
        subst e
        go_wp2_with fail
        go_ret
        exact ⟨rfl, HAL.out⟩
      go_wp2_with fail
      go_round
      case rel => exact .inr (.inr (.inr (.inl ⟨by go_num, by go_num, by omega, by omega, by omega, by omega, by omega, by omega⟩)))
      case measure => simp [intOf]
    · by_cases r1 : h3 < 0
      · have e : K = false := HNO.out (by omega)
        subst e
        go_wp2_with fail
        go_ret
        exact ⟨rfl, HAL.out⟩
      by_cases r2 : 1099511627776 < h3
      · have e : K = false := HNO.out (by omega)
        subst e
        go_wp2_with fail
        go_ret
        exact ⟨rfl, HAL.out⟩
      go_wp2_with fail
      go_round
      case rel => exact .inr (.inr (.inr (.inr ⟨by go_num, by go_num, by omega, by omega, by omega, by omega, by omega, by omega, by omega, by omega⟩)))
      case measure => simp [intOf]
    · by_cases r0 : h0 + h1 + h2 + h3 = c
      · by_cases r1 : re < -1099511627776
        · have e : K = false := HNO.out (by omega)
          subst e
          go_wp2_with fail
          go_ret
          exact ⟨rfl, HAL.out⟩
        by_cases r2 : 1099511627776 < re
        · have e : K = false := HNO.out (by omega)
          subst e
          go_wp2_with fail
          go_ret
          exact ⟨rfl, HAL.out⟩
        by_cases r3 : im < -1099511627776
        · have e : K = false := HNO.out (by omega)
          subst e
          go_wp2_with fail
          go_ret
          exact ⟨rfl, HAL.out⟩
        by_cases r4 : 1099511627776 < im
        · have e : K = false := HNO.out (by omega)
          subst e
          go_wp2_with fail
          go_ret
          exact ⟨rfl, HAL.out⟩
        by_cases s1 : re < 0
        · by_cases s2 : im < 0
          · by_cases s3 : -re + -im ≤ c
            · have e : K = true := HYES.out (by omega)
              subst e
              go_wp2_with fail
              go_quiet (fail)
              go_wp2_with fail
              go_ret
              exact ⟨by first | rfl | simp [s3], Go.below_drewN HAL.out _⟩
            · have e : K = false := HNO.out (by omega)
              subst e
              go_wp2_with fail
              go_quiet (fail)
              go_wp2_with fail
              go_ret
              exact ⟨by first | rfl | simp [s3], Go.below_drewN HAL.out _⟩
          · by_cases s3 : -re + im ≤ c
            · have e : K = true := HYES.out (by omega)
              subst e
              go_wp2_with fail
              go_quiet (fail)
              go_wp2_with fail
              go_ret
              exact ⟨by first | rfl | simp [s3], Go.below_drewN HAL.out _⟩
            · have e : K = false := HNO.out (by omega)
              subst e
              go_wp2_with fail
              go_quiet (fail)
              go_wp2_with fail
              go_ret
              exact ⟨by first | rfl | simp [s3], Go.below_drewN HAL.out _⟩
        · by_cases s2 : im < 0
          · by_cases s3 : re + -im ≤ c
            · have e : K = true := HYES.out (by omega)
              subst e
              go_wp2_with fail
              go_quiet (fail)
              go_wp2_with fail
              go_ret
              exact ⟨by first | rfl | simp [s3], Go.below_drewN HAL.out _⟩
            · have e : K = false := HNO.out (by omega)
              subst e
              go_wp2_with fail
              go_quiet (fail)
              go_wp2_with fail
              go_ret
              exact ⟨by first | rfl | simp [s3], Go.below_drewN HAL.out _⟩
          · by_cases s3 : re + im ≤ c
            · have e : K = true := HYES.out (by omega)
              subst e
              go_wp2_with fail
              go_quiet (fail)
              go_wp2_with fail
              go_ret
              exact ⟨by first | rfl | simp [s3], Go.below_drewN HAL.out _⟩
            · have e : K = false := HNO.out (by omega)
              subst e
              go_wp2_with fail
              go_quiet (fail)
              go_wp2_with fail
              go_ret
              exact ⟨by first | rfl | simp [s3], Go.below_drewN HAL.out _⟩
      · have e : K = false := HNO.out (by omega)
        subst e
        go_wp2_with fail
        go_ret
        exact ⟨rfl, HAL.out⟩
end Go.Proofs.Ytnjojbanbcahnaa
