/- The walk of fold.Check. -/
import Derived.Test.YtnjojbanbcahnaaFoldAdd
import Derived.Test.YtnjojbanbcahnaaMay
namespace Go.Proofs.Ytnjojbanbcahnaa
open Go.RowKit Vm Fo
set_option linter.unusedVariables false

set_option maxRecDepth 100000 in
set_option maxHeartbeats 1000000 in
theorem within_walk (n m : Int) (b : Bool) (w : World) (hm0 : 0 ≤ m) (hm : m ≤ 1099511627776) (hb : b = true ↔ -m ≤ n ∧ n ≤ m) :
    Calls Try.prog 65 #[.int .i64 n, .int .i64 m] w fun e w' => e = .returned (.bool b) ∧ w = w' := by
  by_cases h1 : -m ≤ n
  · by_cases h2 : n ≤ m
    · obtain rfl : b = true := by rw [hb]; exact ⟨h1, h2⟩
      clear hb
      go_enter Try.func65, Try.ntmps65
      go_wp2_with fail
      go_ret
      exact ⟨rfl, rfl⟩
    · obtain rfl : b = false := by rw [Bool.eq_false_iff, Ne, hb]; exact fun h => h2 h.2
      clear hb
      go_enter Try.func65, Try.ntmps65
      go_wp2_with fail
      go_ret
      exact ⟨rfl, rfl⟩
  · obtain rfl : b = false := by rw [Bool.eq_false_iff, Ne, hb]; exact fun h => h1 h.1
    clear hb
    go_enter Try.func65, Try.ntmps65
    go_wp2_with fail
    go_ret
    exact ⟨rfl, rfl⟩

set_option maxRecDepth 100000 in
set_option maxHeartbeats 4000000 in
theorem check15_walk (a : Ag) (w : World) (ha : AgWf a) :
    Calls Try.prog 44 #[av a] w fun e w' => e = .returned (.int .i64 (codeA a)) ∧ Below w.heap.size w w' := by
  have hno : ¬ May a → codeA a = 1 := codeA_no
  have hyes : May a → codeA a = 0 := codeA_yes
  have hmy : May a → 1 ≤ a.count ∧ a.count ≤ 1099511627776 ∧ a.min ≤ a.max ∧ 0 ≤ a.h0 ∧ 0 ≤ a.h1 ∧ 0 ≤ a.h2 ∧ 0 ≤ a.h3 ∧ a.h0 + a.h1 + a.h2 + a.h3 = a.count ∧ a.re + a.im ≤ a.count ∧ a.re - a.im ≤ a.count ∧ -a.re + a.im ≤ a.count ∧ -a.re - a.im ≤ a.count := fun m => ⟨m.1, m.2, m.3, m.4, m.5, m.6, m.7, m.8, m.9, m.10, m.11, m.12⟩
  have hym : 1 ≤ a.count ∧ a.count ≤ 1099511627776 ∧ a.min ≤ a.max ∧ 0 ≤ a.h0 ∧ 0 ≤ a.h1 ∧ 0 ≤ a.h2 ∧ 0 ≤ a.h3 ∧ a.h0 + a.h1 + a.h2 + a.h3 = a.count ∧ a.re + a.im ≤ a.count ∧ a.re - a.im ≤ a.count ∧ -a.re + a.im ≤ a.count ∧ -a.re - a.im ≤ a.count → May a := fun ⟨a1, a2, a3, a4, a5, a6, a7, a8, a9, a10, a11, a12⟩ => ⟨a1, a2, a3, a4, a5, a6, a7, a8, a9, a10, a11, a12⟩
  have hN : ∀ P : Prop, (P → False) → ¬ P := fun _ h => h
  obtain ⟨c, s, mi, ma, h0, h1, h2, h3, re, im⟩ := a
  obtain ⟨wc, ws, wmi, wma, w0, w1, w2, w3, wr, wi⟩ := ha
  simp only [I64] at wc ws wmi wma w0 w1 w2 w3 wr wi
  simp only at hmy hym
  obtain ⟨K, hK⟩ : ∃ K, codeA ⟨c, s, mi, ma, h0, h1, h2, h3, re, im⟩ = K := ⟨_, rfl⟩
  rw [hK] at hno hyes ⊢
  generalize May ⟨c, s, mi, ma, h0, h1, h2, h3, re, im⟩ = M at *
  clear hK hN
  have HNO := Lib.hid (fun h => hno (mt hmy h))
  have HYES := Lib.hid (fun h => hyes (hym h))
  clear hno hyes hmy hym
  have hal := (Below.refl w.heap.size w).alloc (Nat.le_refl _) (.cells #[.int .i64 c, .int .i64 s, .int .i64 mi, .int .i64 ma, .int .i64 h0, .int .i64 h1, .int .i64 h2, .int .i64 h3, .int .i64 re, .int .i64 im] 53)
  have HAL := Lib.hid hal
  clear hal
  by_cases g1 : c < 1
  · have e : K = 1 := HNO.out (by omega)
    subst e
    go_enter Try.func44, Try.ntmps44
    go_wp2_with fail
    go_ret
    exact ⟨rfl, HAL.out⟩
  by_cases g2 : 1099511627776 < c
  · have e : K = 1 := HNO.out (by omega)
    subst e
    go_enter Try.func44, Try.ntmps44
    go_wp2_with fail
    go_ret
    exact ⟨rfl, HAL.out⟩
  by_cases g3 : ma < mi
  · have e : K = 1 := HNO.out (by omega)
    subst e
    go_enter Try.func44, Try.ntmps44
    go_wp2_with fail
    go_ret
    exact ⟨rfl, HAL.out⟩
  have i0 : ∀ w, (Instr.index 51 (.agg #[.int .i64 h0, .int .i64 h1, .int .i64 h2, .int .i64 h3]) (.int .i64 0)).run Try.prog w = .ok (.int .i64 h0) w := fun _ => by kernel_rfl
  have i1 : ∀ w, (Instr.index 51 (.agg #[.int .i64 h0, .int .i64 h1, .int .i64 h2, .int .i64 h3]) (.int .i64 1)).run Try.prog w = .ok (.int .i64 h1) w := fun _ => by kernel_rfl
  have i2 : ∀ w, (Instr.index 51 (.agg #[.int .i64 h0, .int .i64 h1, .int .i64 h2, .int .i64 h3]) (.int .i64 2)).run Try.prog w = .ok (.int .i64 h2) w := fun _ => by kernel_rfl
  have i3 : ∀ w, (Instr.index 51 (.agg #[.int .i64 h0, .int .i64 h1, .int .i64 h2, .int .i64 h3]) (.int .i64 3)).run Try.prog w = .ok (.int .i64 h3) w := fun _ => by kernel_rfl
  go_enter Try.func44, Try.ntmps44
  go_wp2_with fail
  go_loop [3, 23] (fun S i => (i = .int .i64 0 ∧ S = .int .i64 0) ∨ (i = .int .i64 1 ∧ S = .int .i64 h0 ∧ 0 ≤ h0 ∧ h0 ≤ c) ∨ (i = .int .i64 2 ∧ S = .int .i64 (h0 + h1) ∧ 0 ≤ h0 ∧ h0 ≤ c ∧ 0 ≤ h1 ∧ h1 ≤ c) ∨ (i = .int .i64 3 ∧ S = .int .i64 (h0 + h1 + h2) ∧ 0 ≤ h0 ∧ h0 ≤ c ∧ 0 ≤ h1 ∧ h1 ≤ c ∧ 0 ≤ h2 ∧ h2 ≤ c) ∨ (i = .int .i64 4 ∧ S = .int .i64 (h0 + h1 + h2 + h3) ∧ 0 ≤ h0 ∧ h0 ≤ c ∧ 0 ≤ h1 ∧ h1 ≤ c ∧ 0 ≤ h2 ∧ h2 ≤ c ∧ 0 ≤ h3 ∧ h3 ≤ c)) (fun _ i => 4 - (intOf i).toNat)
  case atStart => exact .inl ⟨rfl, rfl⟩
  case round =>
    rcases hrel with ⟨rfl, rfl⟩ | ⟨rfl, rfl, p0, q0⟩ | ⟨rfl, rfl, p0, q0, p1, q1⟩ | ⟨rfl, rfl, p0, q0, p1, q1, p2, q2⟩ | ⟨rfl, rfl, p0, q0, p1, q1, p2, q2, p3, q3⟩
    · by_cases r1 : h0 < 0
      · have e : K = 1 := HNO.out (by omega)
        subst e
        go_wp2_with fail
        go_ret
        exact ⟨rfl, HAL.out⟩
      by_cases r2 : c < h0
      · have e : K = 1 := HNO.out (by omega)
        subst e
        go_wp2_with fail
        go_ret
        exact ⟨rfl, HAL.out⟩
      go_wp2_with fail
      go_round
      case rel => exact .inr (.inl ⟨by go_num, by go_num, by omega, by omega⟩)
      case measure => simp [intOf]
    · by_cases r1 : h1 < 0
      · have e : K = 1 := HNO.out (by omega)
        subst e
        go_wp2_with fail
        go_ret
        exact ⟨rfl, HAL.out⟩
      by_cases r2 : c < h1
      · have e : K = 1 := HNO.out (by omega)
        subst e
        go_wp2_with fail
        go_ret
        exact ⟨rfl, HAL.out⟩
      go_wp2_with fail
      go_round
      case rel => exact .inr (.inr (.inl ⟨by go_num, by go_num, by omega, by omega, by omega, by omega⟩))
      case measure => simp [intOf]
    · by_cases r1 : h2 < 0
      · have e : K = 1 := HNO.out (by omega)
        subst e
        go_wp2_with fail
        go_ret
        exact ⟨rfl, HAL.out⟩
      by_cases r2 : c < h2
      · have e : K = 1 := HNO.out (by omega)
        subst e
        go_wp2_with fail
        go_ret
        exact ⟨rfl, HAL.out⟩
      go_wp2_with fail
      go_round
      case rel => exact .inr (.inr (.inr (.inl ⟨by go_num, by go_num, by omega, by omega, by omega, by omega, by omega, by omega⟩)))
      case measure => simp [intOf]
    · by_cases r1 : h3 < 0
      · have e : K = 1 := HNO.out (by omega)
        subst e
        go_wp2_with fail
        go_ret
        exact ⟨rfl, HAL.out⟩
      by_cases r2 : c < h3
      · have e : K = 1 := HNO.out (by omega)
        subst e
        go_wp2_with fail
        go_ret
        exact ⟨rfl, HAL.out⟩
      go_wp2_with fail
      go_round
      case rel => exact .inr (.inr (.inr (.inr ⟨by go_num, by go_num, by omega, by omega, by omega, by omega, by omega, by omega, by omega, by omega⟩)))
      case measure => simp [intOf]
    · clear i0 i1 i2 i3
      by_cases r1 : h0 + h1 + h2 + h3 = c
      · by_cases r2 : -c ≤ re ∧ re ≤ c
        · have HW1 := Lib.hid (fun w => within_walk re c true w (by omega) (by omega) (by simp only [true_iff]; exact r2))
          by_cases r3 : -c ≤ im ∧ im ≤ c
          · have HW2 := Lib.hid (fun w => within_walk im c true w (by omega) (by omega) (by simp only [true_iff]; exact r3))
            by_cases s1 : re < -re
            · by_cases s2 : im < -im
              · by_cases r4 : c < -re + -im
                · have e : K = 1 := HNO.out (by omega)
                  subst e
                  go_wp2_with fail
                  refine (HW1.out _).mono ?_
                  rintro e w1 ⟨rfl, rfl⟩
                  go_wp2_with fail
                  refine (HW2.out _).mono ?_
                  rintro e w1 ⟨rfl, rfl⟩
                  go_wp2_with fail
                  go_ret
                  exact ⟨rfl, HAL.out⟩
                · have e : K = 0 := HYES.out (by omega)
                  subst e
                  go_wp2_with fail
                  refine (HW1.out _).mono ?_
                  rintro e w1 ⟨rfl, rfl⟩
                  go_wp2_with fail
                  refine (HW2.out _).mono ?_
                  rintro e w1 ⟨rfl, rfl⟩
                  go_wp2_with fail
                  go_ret
                  exact ⟨rfl, HAL.out⟩
              · by_cases r4 : c < -re + im
                · have e : K = 1 := HNO.out (by omega)
                  subst e
                  go_wp2_with fail
                  refine (HW1.out _).mono ?_
                  rintro e w1 ⟨rfl, rfl⟩
                  go_wp2_with fail
                  refine (HW2.out _).mono ?_
                  rintro e w1 ⟨rfl, rfl⟩
                  go_wp2_with fail
                  go_ret
                  exact ⟨rfl, HAL.out⟩
                · have e : K = 0 := HYES.out (by omega)
                  subst e
                  go_wp2_with fail
                  refine (HW1.out _).mono ?_
                  rintro e w1 ⟨rfl, rfl⟩
                  go_wp2_with fail
                  refine (HW2.out _).mono ?_
                  rintro e w1 ⟨rfl, rfl⟩
                  go_wp2_with fail
                  go_ret
                  exact ⟨rfl, HAL.out⟩
            · by_cases s2 : im < -im
              · by_cases r4 : c < re + -im
                · have e : K = 1 := HNO.out (by omega)
                  subst e
                  go_wp2_with fail
                  refine (HW1.out _).mono ?_
                  rintro e w1 ⟨rfl, rfl⟩
                  go_wp2_with fail
                  refine (HW2.out _).mono ?_
                  rintro e w1 ⟨rfl, rfl⟩
                  go_wp2_with fail
                  go_ret
                  exact ⟨rfl, HAL.out⟩
                · have e : K = 0 := HYES.out (by omega)
                  subst e
                  go_wp2_with fail
                  refine (HW1.out _).mono ?_
                  rintro e w1 ⟨rfl, rfl⟩
                  go_wp2_with fail
                  refine (HW2.out _).mono ?_
                  rintro e w1 ⟨rfl, rfl⟩
                  go_wp2_with fail
                  go_ret
                  exact ⟨rfl, HAL.out⟩
              · by_cases r4 : c < re + im
                · have e : K = 1 := HNO.out (by omega)
                  subst e
                  go_wp2_with fail
                  refine (HW1.out _).mono ?_
                  rintro e w1 ⟨rfl, rfl⟩
                  go_wp2_with fail
                  refine (HW2.out _).mono ?_
                  rintro e w1 ⟨rfl, rfl⟩
                  go_wp2_with fail
                  go_ret
                  exact ⟨rfl, HAL.out⟩
                · have e : K = 0 := HYES.out (by omega)
                  subst e
                  go_wp2_with fail
                  refine (HW1.out _).mono ?_
                  rintro e w1 ⟨rfl, rfl⟩
                  go_wp2_with fail
                  refine (HW2.out _).mono ?_
                  rintro e w1 ⟨rfl, rfl⟩
                  go_wp2_with fail
                  go_ret
                  exact ⟨rfl, HAL.out⟩
          · have HW2 := Lib.hid (fun w => within_walk im c false w (by omega) (by omega) (by simp only [Bool.false_eq_true, false_iff]; exact r3))
            have e : K = 1 := HNO.out (by omega)
            subst e
            go_wp2_with fail
            refine (HW1.out _).mono ?_
            rintro e w1 ⟨rfl, rfl⟩
            go_wp2_with fail
            refine (HW2.out _).mono ?_
            rintro e w1 ⟨rfl, rfl⟩
            go_wp2_with fail
            go_ret
            exact ⟨rfl, HAL.out⟩
        · have HW1 := Lib.hid (fun w => within_walk re c false w (by omega) (by omega) (by simp only [Bool.false_eq_true, false_iff]; exact r2))
          have e : K = 1 := HNO.out (by omega)
          subst e
          go_wp2_with fail
          refine (HW1.out _).mono ?_
          rintro e w1 ⟨rfl, rfl⟩
          go_wp2_with fail
          go_ret
          exact ⟨rfl, HAL.out⟩
      · have e : K = 1 := HNO.out (by omega)
        subst e
        go_wp2_with fail
        go_ret
        exact ⟨rfl, HAL.out⟩
end Go.Proofs.Ytnjojbanbcahnaa
