/- The walks of headgateref12.Right and headgateref12.join. -/
import Derived.Test.YtfjnmjibifefgaaTxSmall
import Derived.Test.YtfjnmjibifefgaaTxEach
namespace Go.Proofs.Ytfjnmjibifefgaa
open Go.RowKit Vm
set_option linter.unusedVariables false

set_option maxRecDepth 100000 in
set_option maxHeartbeats 4000000 in
theorem rright_walk (l : List Tr) (N : Nat) (a : Option Addr) (c B : Nat) (w : World) (d : Bool) (hN : l.length = N) (hNm : N ≤ 2000) (hd : (RightT l ∧ d = true) ∨ (¬ RightT l ∧ d = false)) (h : Sl w B a (trCells l)) (hB : B ≤ w.heap.size) :
    Calls Try.prog 57 #[.slice a N c] w fun e w' => e = .returned (.bool d) ∧ Below w.heap.size w w' := by
  have HNO2 := Lib.hid (show ∀ k, k < N → ¬ OkT l k → d = false from fun k hk h => by
    rcases hd with h1 | h1
    · exact absurd (h1.1 k (by omega)) h
    · exact h1.2)
  have HYES2 := Lib.hid (show PreT l N → d = true from fun h => by
    rcases hd with h1 | h1
    · exact h1.2
    · exact absurd (show RightT l by unfold RightT; rw [hN]; exact h) h1.1)
  clear hd
  go_enter Try.func57, Try.ntmps57
  go_wp2_with fail
  go_loop [3, 4] (fun t i => ∃ (k : Nat) (L : Int), k ≤ N ∧ i = .int .i64 k ∧ t = .int .i64 L ∧ Hid (L = if k = 0 then 0 else (l.getD (k - 1) tr0).p) ∧ PreT l k) (fun _ i => N - (intOf i).toNat)
  case atStart => exact ⟨0, 0, by omega, rfl, rfl, Lib.hid rfl, PreT.zero l⟩
  case round =>
    obtain ⟨k, L, hk, rfl, rfl, HL, hpre⟩ := hrel
    have HP := Lib.hid hpre
    clear hpre
    by_cases hlt : k < N
    · obtain ⟨b1, o1, rfl, hb1, hc⟩ := h.tr (by omega)
      obtain ⟨r0, r1, r2, r3, r4⟩ := hc k (by omega)
      have hz1 : b1 < w.heap.size := by omega
      have HLN := Lib.hid (show (l.getD k tr0).p = if k + 1 = 0 then 0 else (l.getD (k + 1 - 1) tr0).p by rw [if_neg (by omega), show k + 1 - 1 = k by omega])
      have HOkd := Lib.hid (show OkT l k ↔ (L < (l.getD k tr0).p ∧ (l.getD k tr0).p ≤ 8 ∧ 1 ≤ (l.getD k tr0).e ∧ (l.getD k tr0).e ≤ 1099511627776) by
        have hL := HL.out
        unfold OkT
        by_cases h0 : k = 0
        · rw [if_pos h0] at hL; constructor <;> intro h <;> refine ⟨?_, ?_, ?_, ?_⟩ <;> (try intro) <;> omega
        · rw [if_neg h0] at hL
          have h1 := (HP.out (k - 1) (by omega)).1.1
          constructor
          · intro h; have := h.2.2.2 (by omega); omega
          · intro h; refine ⟨by omega, by omega, by omega, fun _ => by omega⟩)
      have HNO := Lib.hid (HNO2.out k hlt)
      clear hc HL
      generalize l.getD k tr0 = x at *
      obtain ⟨xp, xe, xs, xm, xl⟩ := x
      simp only at r0 r1 r2 r3 r4 HOkd HLN
      by_cases h1 : xp ≤ L
      · obtain rfl := HNO.out (by rw [HOkd.out]; omega)
        go_wp2_with fail
        go_ret
        exact ⟨rfl, Below.refl _ _⟩
      by_cases h2 : 8 < xp
      · obtain rfl := HNO.out (by rw [HOkd.out]; omega)
        go_wp2_with fail
        go_ret
        exact ⟨rfl, Below.refl _ _⟩
      by_cases h3 : xe < 1
      · obtain rfl := HNO.out (by rw [HOkd.out]; omega)
        go_wp2_with fail
        go_ret
        exact ⟨rfl, Below.refl _ _⟩
      by_cases h4 : 1099511627776 < xe
      · obtain rfl := HNO.out (by rw [HOkd.out]; omega)
        go_wp2_with fail
        go_ret
        exact ⟨rfl, Below.refl _ _⟩
      · have HO := Lib.hid (HP.out.succ (HOkd.out.2 ⟨by omega, by omega, by omega, by omega⟩))
        go_wp2_with fail
        go_round
        case rel => exact ⟨k + 1, xp, by omega, by go_num, rfl, HLN, HO.out⟩
        case measure => simp [intOf]; omega
    · obtain rfl : k = N := by omega
      obtain rfl := HYES2.out HP.out
      go_wp2_with fail
      go_ret
      exact ⟨rfl, Below.refl _ _⟩
theorem or_step (a b k : Nat) (hk : k < 13) (ha : a < 8192) (hb : b < 8192) : (a ||| b) % 2 ^ (k + 1) = (a ||| b) % 2 ^ k + (if a / 2 ^ k % 2 = 1 ∨ b / 2 ^ k % 2 = 1 then 2 ^ k else 0) := by
  rw [Nat.pow_succ, Nat.mod_mul]
  congr 1
  have h1 := Nat.testBit_eq_decide_div_mod_eq (x := a ||| b) (i := k)
  rw [Nat.testBit_or, Nat.testBit_eq_decide_div_mod_eq, Nat.testBit_eq_decide_div_mod_eq] at h1
  split
  · next h =>
    have : (a ||| b) / 2 ^ k % 2 = 1 := by
      rcases h with h | h <;> simp [h] at h1 <;> exact h1
    rw [this, Nat.mul_one]
  · next h =>
    have : (a ||| b) / 2 ^ k % 2 = 0 := by
      have h2 : ¬ (a ||| b) / 2 ^ k % 2 = 1 := by
        intro h3
        simp [h3] at h1
        omega
      omega
    rw [this, Nat.mul_zero]
theorem or_nat (a b : Nat) (ha : a < 8192) (hb : b < 8192) : bits .or .i64 (a : Int) (b : Int) = ((a ||| b : Nat) : Int) := by
  have e : bits .or .i64 (a : Int) (b : Int) = IntKind.i64.wrap ((BitVec.ofInt 64 (a : Int) ||| BitVec.ofInt 64 (b : Int)).toNat : Int) := rfl
  have h1 : (BitVec.ofInt 64 (a : Int)).toNat = a := by rw [BitVec.toNat_ofInt]; omega
  have h2 : (BitVec.ofInt 64 (b : Int)).toNat = b := by rw [BitVec.toNat_ofInt]; omega
  have h3 : a ||| b < 2 ^ 13 := Nat.or_lt_two_pow (by omega) (by omega)
  rw [e, BitVec.toNat_or, h1, h2, IntKind.wrap_i64]
  omega
set_option maxRecDepth 100000 in
set_option maxHeartbeats 4000000 in
theorem join_walk (a b : Nat) (w : World) (ha : a < 8192) (hb : b < 8192) :
    Calls Try.prog 77 #[.int .i64 a, .int .i64 b] w fun e w' => e = .returned (.int .i64 (bits .or .i64 (a : Int) (b : Int))) ∧ Below w.heap.size w w' := by
  have HO := Lib.hid (or_nat a b ha hb)
  have HS := Lib.hid (fun k hk => or_step a b k hk ha hb)
  have hor : a ||| b < 8192 := Nat.or_lt_two_pow (n := 13) (by omega) (by omega)
  rw [HO.out]
  generalize hX : a ||| b = X at *
  clear hX HO
  go_enter Try.func77, Try.ntmps77
  go_wp2_with fail
  go_loop [5, 6, 7] (fun n t i => ∃ (k : Nat) (V : Nat), k ≤ 13 ∧ i = .int .i64 k ∧ t = .int .i64 ((2 ^ k : Nat) : Int) ∧ n = .int .i64 V ∧ Hid (V = X % 2 ^ k)) (fun _ _ i => 13 - (intOf i).toNat)
  case atStart => exact ⟨0, 0, by omega, rfl, rfl, rfl, Lib.hid (by simp; omega)⟩
  case round =>
    obtain ⟨k, V, hk, rfl, rfl, rfl, HV⟩ := hrel
    by_cases hlt : k < 13
    · have hs := HS.out k hlt
      have hp : 1 ≤ 2 ^ k ∧ 2 ^ k ≤ 4096 := ⟨Nat.one_le_two_pow, by have : 2 ^ k ≤ 2 ^ 12 := Nat.pow_le_pow_right (by omega) (by omega); omega⟩
      have hv : V < 2 ^ k := by rw [HV.out]; exact Nat.mod_lt _ (by omega)
      have HP := Lib.hid (show 2 ^ (k + 1) = 2 ^ k * 2 from Nat.pow_succ _ _)
      rw [← HV.out] at hs
      have HS2 := Lib.hid hs
      clear hs HV
      generalize 2 ^ k = T at *
      have hw : IntKind.i64.wrap ((T : Int) * 2) = ((T * 2 : Nat) : Int) := by rw [IntWalk.i64_in _ (by omega)]; omega
      have hq : ∀ z : Nat, z < 8192 → (wrap64 ((z : Int) / (T : Int))).tmod 2 = ((z / T % 2 : Nat) : Int) := fun z hz => by
        have h2 : z / T ≤ z := Nat.div_le_self _ _
        have h1 : wrap64 ((z : Int) / (T : Int)) = ((z / T : Nat) : Int) := by
          rw [← Int.natCast_ediv]
          generalize z / T = Q at *
          unfold wrap64; omega
        rw [h1]
        generalize z / T = Q at *
        rw [Int.tmod_eq_emod_of_nonneg (by omega)]
        omega
      have qa := hq a ha
      have qb := hq b hb
      have ra : a / T % 2 = 1 ∨ a / T % 2 = 0 := by omega
      have rb : b / T % 2 = 1 ∨ b / T % 2 = 0 := by omega
      have HS3 := HS2.out
      clear hq
      rcases ra with ra | ra <;> rcases rb with rb | rb <;> rw [ra] at qa HS3 <;> rw [rb] at qb HS3 <;> simp at qa qb HS3
      all_goals
        have HX := Lib.hid HS3
        clear HS3 ra rb
        go_wp2_with fail
        go_round
        case rel => exact ⟨k + 1, _, by omega, by go_num, by rw [HP.out]; first | rfl | (congr 1; omega), congrArg (Value.int .i64) (by first | rfl | exact (Int.natCast_add _ _).symm), Lib.hid HX.out.symm⟩
        case measure => simp [intOf]; omega
    · obtain rfl : k = 13 := by omega
      have HV2 := Lib.hid (show V = X by rw [HV.out]; exact Nat.mod_eq_of_lt hor)
      go_wp2_with fail
      go_ret
      exact ⟨by rw [HV2.out]; rfl, Below.refl _ _⟩
end Go.Proofs.Ytfjnmjibifefgaa
