/- The walks of sketch.Ends and of the references; chapter 29's examples. -/
import Derived.Test.YtbljhmcenjmjjaaSkOf
namespace Go.Proofs.Ytbljhmcenjmjjaa
open Go.RowKit Vm Sk
set_option linter.unusedVariables false

theorem low_high_nn {b : Int} (h0 : 0 ≤ b) (h1 : b < 960) : lowN b.toNat ≤ 9223372036854775807 ∧ highN b.toNat ≤ 9223372036854775807 := by
  obtain ⟨u, rfl⟩ := Int.eq_ofNat_of_zero_le h0
  rw [Int.toNat_natCast]
  by_cases hs : u < 32
  · unfold lowN highN; rw [if_pos hs, if_pos hs]; omega
  · obtain ⟨e, m, hm1, hm2, hu⟩ : ∃ e m, 16 ≤ m ∧ m < 32 ∧ u = 16 * e + m := ⟨u / 16 - 1, u - 16 * (u / 16 - 1), by omega, by omega, by omega⟩
    obtain ⟨el, eh⟩ := ends_at (e := e) hm1 hm2
    obtain ⟨L, P, H, hL, hP, hH, k1, k2, k3, k4⟩ := ends_num e m hm1 hm2 (by omega)
    rw [hu, el, eh, ← hL, ← hH]
    clear hL hP hH el eh
    omega

set_option maxHeartbeats 1000000 in
theorem ends_walk (b : Int) (w : World) (hb : I64 b) :
    Calls Try.prog 11 #[.int .i64 b] w fun e w' => e = .returned (.tuple (if -960 ≤ b ∧ b < 960 then #[.int .i64 (lowI b), .int .i64 (highI b), .int .i64 0] else #[.int .i64 0, .int .i64 0, .int .i64 1])) ∧ Drew w w' := by
  unfold I64 at hb
  by_cases hk : -960 ≤ b ∧ b < 960
  · rw [if_pos hk]
    have HB := Lib.hid (fun w => bucket_walk b w)
    rw [decide_eq_true hk] at HB
    by_cases hn : b < 0
    · have el : lowI b = -1 - (highN (-1 - b).toNat : Int) := by unfold lowI; rw [if_pos hn]
      have eh : highI b = -1 - (lowN (-1 - b).toNat : Int) := by unfold highI; rw [if_pos hn]
      rw [el, eh]
      obtain ⟨b1, b2⟩ := low_high_nn (b := -1 - b) (by omega) (by omega)
      have H := Lib.hid (fun w => ends_nn (-1 - b) w (by omega) (by omega))
      clear el eh
      generalize highN (-1 - b).toNat = h at *
      generalize lowN (-1 - b).toNat = l at *
      have b3 : (h : Int) ≤ 9223372036854775807 := by omega
      have b4 : (l : Int) ≤ 9223372036854775807 := by omega
      go_enter Try.func11, Try.ntmps11
      go_wp2_with fail
      refine (HB.out _).mono ?_
      rintro e w1 ⟨rfl, rfl⟩
      go_wp2_with fail
      refine (H.out _).mono ?_
      rintro e w1 ⟨rfl, d1⟩
      go_wp2_with fail
      go_ret3
      exact ⟨rfl, d1⟩
    · have el : lowI b = (lowN b.toNat : Int) := by unfold lowI; rw [if_neg hn]
      have eh : highI b = (highN b.toNat : Int) := by unfold highI; rw [if_neg hn]
      rw [el, eh]
      have H := Lib.hid (fun w => ends_nn b w (by omega) (by omega))
      clear el eh
      generalize highN b.toNat = h at *
      generalize lowN b.toNat = l at *
      go_enter Try.func11, Try.ntmps11
      go_wp2_with fail
      refine (HB.out _).mono ?_
      rintro e w1 ⟨rfl, rfl⟩
      go_wp2_with fail
      refine (H.out _).mono ?_
      rintro e w1 ⟨rfl, d1⟩
      go_wp2_with fail
      go_ret3
      exact ⟨rfl, d1⟩
  · rw [if_neg hk]
    have HB := Lib.hid (fun w => bucket_walk b w)
    rw [decide_eq_false hk] at HB
    go_enter Try.func11, Try.ntmps11
    go_wp2_with fail
    refine (HB.out _).mono ?_
    rintro e w1 ⟨rfl, rfl⟩
    go_wp2_with fail
    go_ret3
    exact ⟨rfl, Drew.refl _⟩

set_option maxHeartbeats 2000000 in
theorem awake29_walk (w : World) :
    Calls Try.prog 15 #[] w fun e w' => e = .returned (.bool true) ∧ Drew w w' := by
  have H0 := Lib.hid (fun w => ends_walk 111 w (by unfold I64; omega))
  have e0 : (if (-960 : Int) ≤ 111 ∧ (111 : Int) < 960 then #[Value.int .i64 (lowI 111), .int .i64 (highI 111), .int .i64 0] else #[.int .i64 0, .int .i64 0, .int .i64 1]) = #[.int .i64 992, .int .i64 1023, .int .i64 0] := by
    rw [if_pos (by omega)]
    have h1 : lowI 111 = 992 := by decide +kernel
    have h2 : highI 111 = 1023 := by decide +kernel
    rw [h1, h2]
  have n1 : ofI 31 = 31 := by unfold ofI; rw [if_neg (by omega)]; rw [ofN_small (by decide)]; rfl
  have n2 : ofI 32 = 32 := by unfold ofI; rw [if_neg (by omega), show Int.toNat 32 = 32 from rfl]; rw [ofN_at 1 16 32 (by omega) (by omega) (by decide) (by decide)]; rfl
  have n3 : ofI 33 = 32 := by unfold ofI; rw [if_neg (by omega), show Int.toNat 33 = 33 from rfl]; rw [ofN_at 1 16 33 (by omega) (by omega) (by decide) (by decide)]; rfl
  have n4 : ofI 1000 = 111 := by unfold ofI; rw [if_neg (by omega), show Int.toNat 1000 = 1000 from rfl]; rw [ofN_at 5 31 1000 (by omega) (by omega) (by decide) (by decide)]; rfl
  have n5 : ofI (-1) = -1 := by unfold ofI; rw [if_pos (by omega)]; rw [ofN_small (by decide)]; rfl
  have H1 := Lib.hid (fun w => of_walk 31 w (by unfold I64; omega))
  have H2 := Lib.hid (fun w => of_walk 32 w (by unfold I64; omega))
  have H3 := Lib.hid (fun w => of_walk 33 w (by unfold I64; omega))
  have H4 := Lib.hid (fun w => of_walk 1000 w (by unfold I64; omega))
  have H5 := Lib.hid (fun w => of_walk (-1) w (by unfold I64; omega))
  rw [e0] at H0
  rw [n1] at H1
  rw [n2] at H2
  rw [n3] at H3
  rw [n4] at H4
  rw [n5] at H5
  clear e0 n1 n2 n3 n4 n5
  go_enter Try.func15, Try.ntmps15
  go_wp2_with fail
  refine (H0.out _).mono ?_
  rintro e w1 ⟨rfl, d1⟩
  go_wp2_with fail
  refine (H1.out _).mono ?_
  rintro e w2 ⟨rfl, rfl⟩
  go_wp2_with fail
  refine (H2.out _).mono ?_
  rintro e w2 ⟨rfl, rfl⟩
  go_wp2_with fail
  refine (H3.out _).mono ?_
  rintro e w2 ⟨rfl, rfl⟩
  go_wp2_with fail
  refine (H4.out _).mono ?_
  rintro e w2 ⟨rfl, rfl⟩
  go_wp2_with fail
  refine (H5.out _).mono ?_
  rintro e w2 ⟨rfl, rfl⟩
  go_wp2_with fail
  go_ret
  exact ⟨rfl, d1⟩
end Go.Proofs.Ytbljhmcenjmjjaa
