/- The walks of sketch.Of and Ends. -/
import Derived.Test.YtbljhmcenjmjjaaRows
import Derived.Test.YtbljhmcenjmjjaaSk
import Derived.Test.YtbljhmcenjmjjaaSlice
import Derived.WalkSpells
import Derived.WalkLawsBesides
import Derived.Lib.Hide
import Derived.Laws.Bits64b
import Derived.Deep.QuietTactic
import Derived.BigQuiet
import Derived.IntWalk
import Derived.Outline
namespace Go.Proofs.Ytbljhmcenjmjjaa
open Go.RowKit Vm Sk
set_option linter.unusedVariables false

set_option maxRecDepth 100000 in
set_option maxHeartbeats 1000000 in
theorem of_nn (v : Int) (w : World) (h0 : 0 ≤ v) (h1 : v ≤ 9223372036854775807) :
    Calls Try.prog 13 #[.int .i64 v] w fun e w' => e = .returned (.int .i64 (ofN v.toNat : Int)) ∧ w = w' := by
  obtain ⟨u, rfl⟩ := Int.eq_ofNat_of_zero_le h0
  rw [Int.toNat_natCast]
  have hu := (ends_of (v := u) (by omega)).1
  have hu0 : ¬ (u : Int) < 0 := by omega
  go_enter Try.func13, Try.ntmps13
  go_wp2
  go_loop [0, 3] (fun x h => ∃ c k : Nat, x = .int .i64 c ∧ h = .int .i64 k ∧ (c : Int) ≤ 9223372036854775807 ∧ Hid (16 * k + ofN c = ofN u)) (fun x _ => (intOf x).toNat)
  case atStart => exact ⟨u, 0, rfl, rfl, h1, Lib.hid (by simp)⟩
  case round =>
    obtain ⟨c, k, rfl, rfl, hc, HK⟩ := hrel
    have hk : (k : Int) < 60 := by have := HK.out; omega
    by_cases hlt : 32 ≤ c
    · have hd : IntKind.i64.wrap ((c : Int).tdiv 2) = ((c / 2 : Nat) : Int) := by
        rw [Int.tdiv_eq_ediv_of_nonneg (by omega)]
        exact (IntWalk.i64_in _ (by omega)).trans (by omega)
      have hcl : (32 : Int) ≤ (c : Int) := by omega
      go_wp2
      go_round
      case rel => exact ⟨c / 2, k + 1, rfl, by go_num, by omega, Lib.hid (by have := HK.out; rw [ofN_big (by omega)] at this; omega)⟩
      case measure => simp [intOf]; omega
    · have hcl : ¬ (32 : Int) ≤ (c : Int) := by omega
      have he : (16 * (k : Int) + (c : Int)) = (ofN u : Int) := by have := HK.out; rw [ofN_small (by omega)] at this; omega
      have hc2 : (c : Int) < 32 := by omega
      have HE := Lib.hid he
      clear he
      go_wp2
      go_ret
      exact ⟨by rw [← HE.out]; rfl, rfl⟩
set_option maxHeartbeats 1000000 in
theorem of_walk (v : Int) (w : World) (hv : I64 v) :
    Calls Try.prog 13 #[.int .i64 v] w fun e w' => e = .returned (.int .i64 (ofI v)) ∧ w = w' := by
  unfold I64 at hv
  by_cases hn : v < 0
  · have e : ofI v = -1 - (ofN (-1 - v).toNat : Int) := by unfold ofI; rw [if_pos hn]
    have hu := (ends_of (v := (-1 - v).toNat) (by omega)).1
    rw [e]
    clear e
    have H := Lib.hid (fun w => of_nn (-1 - v) w (by omega) (by omega))
    generalize ofN (-1 - v).toNat = q at *
    have hq : (q : Int) < 960 := by omega
    go_enter Try.func13, Try.ntmps13
    go_wp2_with fail
    refine (H.out _).mono ?_
    rintro e w1 ⟨rfl, rfl⟩
    go_wp2
    go_ret
    exact ⟨rfl, rfl⟩
  · have e : ofI v = (ofN v.toNat : Int) := by unfold ofI; rw [if_neg hn]
    rw [e]
    exact of_nn v w (by omega) (by omega)
set_option maxHeartbeats 1000000 in
theorem bucket_walk (b : Int) (w : World) :
    Calls Try.prog 34 #[.int .i64 b] w fun e w' => e = .returned (.bool (decide (-960 ≤ b ∧ b < 960))) ∧ w = w' := by
  by_cases h1 : -960 ≤ b
  · by_cases h2 : b < 960
    · have e : decide (-960 ≤ b ∧ b < 960) = true := decide_eq_true ⟨h1, h2⟩
      rw [e]
      go_enter Try.func34, Try.ntmps34
      go_wp2
      go_ret
      exact ⟨rfl, rfl⟩
    · have e : decide (-960 ≤ b ∧ b < 960) = false := decide_eq_false (fun h => h2 h.2)
      rw [e]
      go_enter Try.func34, Try.ntmps34
      go_wp2
      go_ret
      exact ⟨rfl, rfl⟩
  · have e : decide (-960 ≤ b ∧ b < 960) = false := decide_eq_false (fun h => h1 h.1)
    rw [e]
    go_enter Try.func34, Try.ntmps34
    go_wp2
    go_ret
    exact ⟨rfl, rfl⟩
theorem wrap64_in (x : Int) (h : -9223372036854775808 ≤ x ∧ x ≤ 9223372036854775807) : wrap64 x = x := by unfold wrap64; omega
theorem shl_at (m e L : Nat) (h : L = m * 2 ^ e) (hb : -9223372036854775808 ≤ (L : Int) ∧ (L : Int) ≤ 9223372036854775807) : wrap64 ((m : Int) * 2 ^ e) = (L : Int) := by
  have c : ((m : Int) * 2 ^ e) = (L : Int) := by rw [h]; simp
  rw [c]; exact wrap64_in _ hb
theorem shl_one (e L : Nat) (h : L = 2 ^ e) (hb : -9223372036854775808 ≤ (L : Int) ∧ (L : Int) ≤ 9223372036854775807) : wrap64 ((2 : Int) ^ e) = (L : Int) := by
  have c : ((2 : Int) ^ e) = (L : Int) := by rw [h]; simp
  rw [c]; exact wrap64_in _ hb
theorem ends_num (e m : Nat) (hm1 : 16 ≤ m) (hm2 : m < 32) (he : e ≤ 58) : ∃ L P H : Nat, L = m * 2 ^ e ∧ P = 2 ^ e ∧ H = (m + 1) * 2 ^ e - 1 ∧ L + P = H + 1 ∧ 1 ≤ P ∧ 16 * P ≤ L ∧ H ≤ 9223372036854775807 := by
  have hb : (m + 1) * 2 ^ e ≤ 32 * 2 ^ 58 := Nat.mul_le_mul (by omega) (Nat.pow_le_pow_right (by omega) he)
  have ha : (m + 1) * 2 ^ e = m * 2 ^ e + 2 ^ e := by rw [Nat.add_mul]; omega
  have hp : 1 ≤ 2 ^ e := Nat.two_pow_pos e
  have hpm : 16 * 2 ^ e ≤ m * 2 ^ e := Nat.mul_le_mul_right _ hm1
  refine ⟨_, _, _, rfl, rfl, rfl, ?_, hp, hpm, ?_⟩
  · rw [ha]; omega
  · rw [show (32 : Nat) * 2 ^ 58 = 9223372036854775808 from by decide] at hb
    omega

set_option maxRecDepth 100000 in
set_option maxHeartbeats 1000000 in
theorem ends_nn (b : Int) (w : World) (h0 : 0 ≤ b) (h1 : b < 960) :
    Calls Try.prog 35 #[.int .i64 b] w fun e w' => e = .returned (.tuple #[.int .i64 (lowN b.toNat : Int), .int .i64 (highN b.toNat : Int)]) ∧ Drew w w' := by
  obtain ⟨u, rfl⟩ := Int.eq_ofNat_of_zero_le h0
  rw [Int.toNat_natCast]
  by_cases hs : u < 32
  · have e1 : lowN u = u := by unfold lowN; rw [if_pos hs]
    have e2 : highN u = u := by unfold highN; rw [if_pos hs]
    rw [e1, e2]
    have hs2 : (u : Int) < 32 := by omega
    clear e1 e2
    go_enter Try.func35, Try.ntmps35
    go_wp2
    go_ret2
    exact ⟨rfl, Drew.refl _⟩
  · obtain ⟨e, m, hm1, hm2, hu⟩ : ∃ e m, 16 ≤ m ∧ m < 32 ∧ u = 16 * e + m := ⟨u / 16 - 1, u - 16 * (u / 16 - 1), by omega, by omega, by omega⟩
    obtain ⟨el, eh⟩ := ends_at (e := e) hm1 hm2
    rw [← hu] at el eh
    have he58 : e ≤ 58 := by omega
    obtain ⟨L, P, H, hL, hP, hH, k1, k2, k3, k4⟩ := ends_num e m hm1 hm2 he58
    rw [← hL] at el
    rw [← hH] at eh
    rw [el, eh]
    have bL : -9223372036854775808 ≤ (L : Int) ∧ (L : Int) ≤ 9223372036854775807 := by clear hL hP hH el eh; omega
    have bP : -9223372036854775808 ≤ (P : Int) ∧ (P : Int) ≤ 9223372036854775807 := by clear hL hP hH el eh; omega
    have hs2 : ¬ (u : Int) < 32 := by omega
    have hq0 : (u : Int) / 16 - 1 = (e : Int) := by clear hL hP hH el eh; omega
    have hexp : u / 16 - 1 = e := by clear hL hP hH el eh; omega
    have hr : (u : Int) - 16 * (e : Int) = (m : Int) := by clear hL hP hH el eh; omega
    have he0 : (e : Int) ≤ 58 := by omega
    have hv1 := shl_at m e L hL bL
    have hv3 := shl_one e P hP bP
    have HHI : Hid ((L : Int) + ((P : Int) - 1) = (H : Int)) := by show _ = _; clear hL hP hH el eh hv1 hv3; omega
    have hw4 : IntKind.i64.wrap ((P : Int) - 1) = (P : Int) - 1 := IntWalk.i64_in _ (by clear hL hP hH el eh hv1 hv3; omega)
    have hw5 : IntKind.i64.wrap ((L : Int) + ((P : Int) - 1)) = (L : Int) + ((P : Int) - 1) := IntWalk.i64_in _ (by clear hL hP hH el eh hv1 hv3; omega)
    have hp1 : (1 : Int) ≤ (P : Int) := by clear hL hP hH el eh hv1 hv3; omega
    have HL := Lib.hid hL
    clear hL hP hH el eh hu hs k1 k2 k3 k4 hm1 hm2 he58
    go_enter Try.func35, Try.ntmps35
    go_wp2
    go_quiet (fail)
    go_wp2
    go_ret2
    exact ⟨by rw [← HHI.out]; rfl, Drew.of _ _⟩
end Go.Proofs.Ytbljhmcenjmjjaa
