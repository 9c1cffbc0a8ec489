/- The walks of headgateref29.Of and Ends. -/
import Derived.Test.YtbljhmcenjmjjaaSkEnds
namespace Go.Proofs.Ytbljhmcenjmjjaa
open Go.RowKit Vm Sk
set_option linter.unusedVariables false

set_option maxRecDepth 100000 in
set_option maxHeartbeats 1000000 in
theorem ref_of_nn (v : Int) (w : World) (h0 : 0 ≤ v) (h1 : v ≤ 9223372036854775807) :
    Calls Try.prog 14 #[.int .i64 v] w fun e w' => e = .returned (.int .i64 (ofN v.toNat : Int)) ∧ w = w' := by
  obtain ⟨u, rfl⟩ := Int.eq_ofNat_of_zero_le h0
  rw [Int.toNat_natCast]
  have hu := (ends_of (v := u) (by omega)).1
  have hu0 : ¬ (u : Int) < 0 := by omega
  by_cases hs : u < 32
  · rw [ofN_small hs]
    have hs2 : (u : Int) < 32 := by omega
    go_enter Try.func14, Try.ntmps14
    go_wp2
    go_ret
    exact ⟨rfl, rfl⟩
  · have hs2 : ¬ (u : Int) < 32 := by omega
    go_enter Try.func14, Try.ntmps14
    go_wp2
    go_loop [0, 3] (fun x h => ∃ c k : Nat, x = .int .i64 c ∧ h = .int .i64 k ∧ (c : Int) ≤ 9223372036854775807 ∧ Hid (16 * k + ofN c = ofN u)) (fun x _ => (intOf x).toNat)
    case atStart => exact ⟨u, 0, rfl, rfl, h1, Lib.hid (by simp)⟩
    case round =>
      obtain ⟨c, k, rfl, rfl, hc, HK⟩ := hrel
      have hk : (k : Int) < 60 := by have := HK.out; omega
      by_cases hlt : 31 < c
      · have hd : IntKind.i64.wrap ((c : Int).tdiv 2) = ((c / 2 : Nat) : Int) := by
          rw [Int.tdiv_eq_ediv_of_nonneg (by omega)]
          exact (IntWalk.i64_in _ (by omega)).trans (by omega)
        have hcl : (31 : Int) < (c : Int) := by omega
        go_wp2
        go_round
        case rel => exact ⟨c / 2, k + 1, rfl, by go_num, by omega, Lib.hid (by have := HK.out; rw [ofN_big (by omega)] at this; omega)⟩
        case measure => simp [intOf]; omega
      · have hcl : ¬ (31 : Int) < (c : Int) := by omega
        have he : (16 * (k : Int) + (c : Int)) = (ofN u : Int) := by have := HK.out; rw [ofN_small (by omega)] at this; omega
        have hc2 : (c : Int) < 32 := by omega
        have HE := Lib.hid he
        clear he
        go_wp2
        go_ret
        exact ⟨by rw [← HE.out]; rfl, rfl⟩
set_option maxHeartbeats 1000000 in
theorem ref_of_walk (v : Int) (w : World) (hv : I64 v) :
    Calls Try.prog 14 #[.int .i64 v] w fun e w' => e = .returned (.int .i64 (ofI v)) ∧ w = w' := by
  unfold I64 at hv
  by_cases hn : v < 0
  · have e : ofI v = -1 - (ofN (-1 - v).toNat : Int) := by unfold ofI; rw [if_pos hn]
    have hu := (ends_of (v := (-1 - v).toNat) (by omega)).1
    rw [e]
    clear e
    have H := Lib.hid (fun w => ref_of_nn (-1 - v) w (by omega) (by omega))
    generalize ofN (-1 - v).toNat = q at *
    have hq : (q : Int) < 960 := by omega
    go_enter Try.func14, Try.ntmps14
    go_wp2_with fail
    refine (H.out _).mono ?_
    rintro e w1 ⟨rfl, rfl⟩
    go_wp2
    go_ret
    exact ⟨rfl, rfl⟩
  · have e : ofI v = (ofN v.toNat : Int) := by unfold ofI; rw [if_neg hn]
    rw [e]
    exact ref_of_nn v w (by omega) (by omega)

theorem pow_step (m k e : Nat) (h : k < e) : m * 2 ^ (k + 1) = m * 2 ^ k * 2 ∧ m * 2 ^ (k + 1) ≤ m * 2 ^ e := by
  constructor
  · rw [Nat.pow_succ, Nat.mul_assoc]
  · exact Nat.mul_le_mul_left _ (Nat.pow_le_pow_right (by omega) h)

set_option maxRecDepth 100000 in
set_option maxHeartbeats 1000000 in
theorem ref_ends_nn (b : Int) (w : World) (h0 : 0 ≤ b) (h1 : b < 960) :
    Calls Try.prog 12 #[.int .i64 b] w fun e w' => e = .returned (.tuple #[.int .i64 (lowN b.toNat : Int), .int .i64 (highN b.toNat : Int), .int .i64 0]) ∧ Drew w w' := by
  obtain ⟨u, rfl⟩ := Int.eq_ofNat_of_zero_le h0
  rw [Int.toNat_natCast]
  have g1 : ¬ (u : Int) < -960 := by omega
  have g2 : ¬ (960 : Int) ≤ (u : Int) := by omega
  have g3 : ¬ (u : Int) < 0 := by omega
  by_cases hs : u < 32
  · have e1 : lowN u = u := by unfold lowN; rw [if_pos hs]
    have e2 : highN u = u := by unfold highN; rw [if_pos hs]
    rw [e1, e2]
    have hs2 : (u : Int) < 32 := by omega
    clear e1 e2
    go_enter Try.func12, Try.ntmps12
    go_wp2
    go_ret3
    exact ⟨rfl, Drew.refl _⟩
  · obtain ⟨e, m, hm1, hm2, hu⟩ : ∃ e m, 16 ≤ m ∧ m < 32 ∧ u = 16 * e + m := ⟨u / 16 - 1, u - 16 * (u / 16 - 1), by omega, by omega, by omega⟩
    obtain ⟨el, eh⟩ := ends_at (e := e) hm1 hm2
    rw [← hu] at el eh
    have he58 : e ≤ 58 := by omega
    obtain ⟨L, P, H, hL, hP, hH, k1, k2, k3, k4⟩ := ends_num e m hm1 hm2 he58
    rw [← hL] at el
    rw [← hH] at eh
    rw [el, eh]
    have bL : (L : Int) ≤ 9223372036854775807 := by clear hL hP hH el eh; omega
    have bP : (P : Int) ≤ 9223372036854775807 := by clear hL hP hH el eh; omega
    have hs2 : ¬ (u : Int) < 32 := by omega
    have hq0 : (u : Int) / 16 - 1 = (e : Int) := by clear hL hP hH el eh; omega
    have hr : (u : Int) - 16 * (e : Int) = (m : Int) := by clear hL hP hH el eh; omega
    have he0 : (e : Int) ≤ 58 := by omega
    have HHI : Hid ((L : Int) + ((P : Int) - 1) = (H : Int)) := by show _ = _; clear hL hP hH el eh; omega
    have hw4 : IntKind.i64.wrap ((P : Int) - 1) = (P : Int) - 1 := IntWalk.i64_in _ (by clear hL hP hH el eh; omega)
    have hw5 : IntKind.i64.wrap ((L : Int) + ((P : Int) - 1)) = (L : Int) + ((P : Int) - 1) := IntWalk.i64_in _ (by clear hL hP hH el eh; omega)
    have hp1 : (1 : Int) ≤ (P : Int) := by clear hL hP hH el eh; omega
    have HL := Lib.hid hL
    have HP := Lib.hid hP
    have hm31 : (m : Int) ≤ 31 := by omega
    clear hL hP hH el eh hu hs k1 k2 k3 k4 hm1 hm2 he58 g3
    go_enter Try.func12, Try.ntmps12
    go_wp2
    go_loop [9, 10, 11] (fun f x i => ∃ k F X : Nat, k ≤ e ∧ i = .int .i64 k ∧ f = .int .i64 F ∧ x = .int .i64 X ∧ Hid (F = m * 2 ^ k) ∧ Hid (X = 2 ^ k)) (fun _ _ i => e - (intOf i).toNat)
    case atStart => exact ⟨0, m, 1, by omega, rfl, rfl, rfl, Lib.hid (by simp), Lib.hid (by simp)⟩
    case round =>
      obtain ⟨k, F, X, hk, rfl, rfl, rfl, HF, HX⟩ := hrel
      by_cases hlt : k < e
      · obtain ⟨p1, p2⟩ := pow_step m k e hlt
        obtain ⟨p3, p4⟩ := pow_step 1 k e hlt
        have f1 : (F : Int) * 2 ≤ 9223372036854775807 := by
          rw [← HF.out] at p1; rw [p1, ← HL.out] at p2; clear p3 p4 p1; omega
        have f2 : (X : Int) * 2 ≤ 9223372036854775807 := by
          rw [Nat.one_mul, Nat.one_mul, ← HX.out] at p3; rw [Nat.one_mul, p3, Nat.one_mul, ← HP.out] at p4; clear p1 p2 p3; omega
        have hn1 : F * 2 = m * 2 ^ (k + 1) := by rw [p1, HF.out]
        have hn2 : X * 2 = 2 ^ (k + 1) := by rw [Nat.pow_succ, HX.out]
        have HN1 := Lib.hid hn1
        have HN2 := Lib.hid hn2
        clear p1 p2 p3 p4 hn1 hn2
        go_wp2
        go_round
        case rel => exact ⟨k + 1, F * 2, X * 2, by omega, by go_num, by go_num, by go_num, HN1, HN2⟩
        case measure => simp [intOf]; omega
      · have hke : k = e := by omega
        have hF : F = L := by rw [HF.out, HL.out, hke]
        have hX : X = P := by rw [HX.out, HP.out, hke]
        subst hF
        subst hX
        go_wp2
        go_ret3
        exact ⟨by rw [← HHI.out]; rfl, Drew.refl _⟩

set_option maxHeartbeats 1000000 in
theorem ref_ends_walk (b : Int) (w : World) (hb : I64 b) :
    Calls Try.prog 12 #[.int .i64 b] w fun e w' => e = .returned (.tuple (if -960 ≤ b ∧ b < 960 then #[.int .i64 (lowI b), .int .i64 (highI b), .int .i64 0] else #[.int .i64 0, .int .i64 0, .int .i64 1])) ∧ Drew w w' := by
  unfold I64 at hb
  by_cases hk : -960 ≤ b ∧ b < 960
  · rw [if_pos hk]
    by_cases hn : b < 0
    · have el : lowI b = -1 - (highN (-1 - b).toNat : Int) := by unfold lowI; rw [if_pos hn]
      have eh : highI b = -1 - (lowN (-1 - b).toNat : Int) := by unfold highI; rw [if_pos hn]
      rw [el, eh]
      obtain ⟨b1, b2⟩ := low_high_nn (b := -1 - b) (by omega) (by omega)
      have H := Lib.hid (fun w => ref_ends_nn (-1 - b) w (by omega) (by omega))
      clear el eh
      generalize highN (-1 - b).toNat = h at *
      generalize lowN (-1 - b).toNat = l at *
      have b3 : (h : Int) ≤ 9223372036854775807 := by omega
      have b4 : (l : Int) ≤ 9223372036854775807 := by omega
      have g1 : ¬ b < -960 := by omega
      have g2 : ¬ 960 ≤ b := by omega
      go_enter Try.func12, Try.ntmps12
      go_wp2_with fail
      refine (H.out _).mono ?_
      rintro e w1 ⟨rfl, d1⟩
      go_wp2_with fail
      go_ret3
      exact ⟨rfl, d1⟩
    · have el : lowI b = (lowN b.toNat : Int) := by unfold lowI; rw [if_neg hn]
      have eh : highI b = (highN b.toNat : Int) := by unfold highI; rw [if_neg hn]
      rw [el, eh]
      exact ref_ends_nn b w (by omega) (by omega)
  · rw [if_neg hk]
    have hc : b < -960 ∨ (¬ b < -960 ∧ 960 ≤ b) := by omega
    rcases hc with h1 | ⟨h1, h2⟩
    all_goals
      go_enter Try.func12, Try.ntmps12
      go_wp2
      go_ret3
      exact ⟨rfl, Drew.refl _⟩
end Go.Proofs.Ytbljhmcenjmjjaa
