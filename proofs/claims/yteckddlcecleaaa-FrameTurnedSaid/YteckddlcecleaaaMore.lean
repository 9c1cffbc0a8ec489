/- The walks of crc.More and headgateref02.More. -/
import Derived.Test.YteckddlcecleaaaRows
import Derived.Test.YteckddlcecleaaaCm
import Derived.Test.YteckddlcecleaaaSlice
import Derived.WalkSpells
import Derived.WalkLawsBesides
import Derived.Lib.Hide
import Derived.Laws.Bits64b
import Derived.Deep.QuietTactic
import Derived.BigQuiet
import Derived.IntWalk
namespace Go.Proofs.Yteckddlcecleaaa
open Go.RowKit Vm Cm
set_option linter.unusedVariables false

namespace Crc
theorem xor32 (a b : Nat) (ha : a < 4294967296) (hb : b < 4294967296) : bits .xor .u32 (a : Int) (b : Int) = ((a ^^^ b : Nat) : Int) := by
  have hx : a ^^^ b < 2 ^ 32 := Nat.xor_lt_two_pow (by omega) (by omega)
  have h1 : (BitVec.ofInt 32 (a : Int)).toNat = a := by
    rw [BitVec.ofInt_natCast, BitVec.toNat_ofNat]; exact Nat.mod_eq_of_lt (by omega)
  have h2 : (BitVec.ofInt 32 (b : Int)).toNat = b := by
    rw [BitVec.ofInt_natCast, BitVec.toNat_ofNat]; exact Nat.mod_eq_of_lt (by omega)
  show IntKind.u32.wrap ((BitVec.ofInt 32 (a : Int) ^^^ BitVec.ofInt 32 (b : Int)).toNat : Int) = _
  rw [BitVec.toNat_xor, h1, h2, IntKind.wrap_u32]
  omega
theorem flip32 (c : Nat) (h : c < 4294967296) : bits .xor .u32 IntKind.u32.max (c : Int) = ((4294967295 - c : Nat) : Int) := by
  rw [show IntKind.u32.max = ((4294967295 : Nat) : Int) from rfl, xor32 _ _ (by omega) h]
  congr 1
  have hz : c < 2 ^ 32 := h
  apply Nat.eq_of_testBit_eq
  intro i
  rw [Nat.testBit_xor, show (4294967295 : Nat) = 2 ^ 32 - 1 from rfl, Nat.testBit_two_pow_sub_one]
  rw [show 2 ^ 32 - 1 - c = 2 ^ 32 - (c + 1) from by omega, Nat.testBit_two_pow_sub_succ hz]
  by_cases hi : i < 32
  · simp [hi]
  · have : c < 2 ^ i := Nat.lt_of_lt_of_le hz (Nat.pow_le_pow_right (by omega) (by omega))
    simp [hi, Nat.testBit_lt_two_pow this]
theorem in8 (R b : Nat) (h : R < 4294967296) (hb : b < 256) : bits .xor .u32 (R : Int) ((b : Int) % 4294967296) = ((R ^^^ b : Nat) : Int) := by
  rw [show (b : Int) % 4294967296 = (b : Int) from by omega, xor32 _ _ h (by omega)]
theorem low1 (R : Nat) (h : R < 4294967296) : bits .and .u32 (R : Int) 1 = ((R % 2 : Nat) : Int) := by
  have := bits_mask .u32 32 (by decide) (fun n h0 h1 => by rw [IntKind.wrap_u32]; omega) 1 (by decide) R (by omega) (by omega)
  rw [show ((2 : Int) ^ 1 - 1) = 1 from rfl] at this
  rw [this]; omega
theorem pick (R : Nat) (h : R < 4294967296) : bits .xor .u32 ((R : Int) / 2) (bits .and .u32 2197175160 (-(bits .and .u32 (R : Int) 1) % 4294967296)) = ((stp R : Nat) : Int) := by
  rw [low1 R h, show ((R : Int) / 2) = ((R / 2 : Nat) : Int) from by omega]
  unfold stp
  by_cases h1 : R % 2 = 1
  · rw [if_pos h1, h1, show bits .and .u32 2197175160 (-((1 : Nat) : Int) % 4294967296) = ((2197175160 : Nat) : Int) from by decide +kernel, xor32 _ _ (by omega) (by omega)]
  · rw [if_neg h1, show R % 2 = 0 from by omega, show bits .and .u32 2197175160 (-((0 : Nat) : Int) % 4294967296) = ((0 : Nat) : Int) from by decide +kernel, xor32 _ _ (by omega) (by omega), Nat.xor_zero]
theorem drop_step (s : ByteArray) (k : Nat) (h : k < s.size) : s.data.toList.drop k = s[k] :: s.data.toList.drop (k + 1) := by
  have h1 : k < s.data.toList.length := by simpa using h
  rw [List.drop_eq_getElem_cons h1]; rfl
end Crc

set_option maxRecDepth 100000 in
set_option maxHeartbeats 1000000 in
theorem more_walk (c : Nat) (s : ByteArray) (w : World) (hc : c < 4294967296) (hs : s.size ≤ maxLen) :
    Calls Try.prog 48 #[.int .u32 (c : Int), .string s] w fun e w' => e = .returned (.int .u32 (more c s.data.toList : Nat)) ∧ w = w' := by
  unfold maxLen at hs
  have hfl := Crc.flip32 c hc
  go_enter Try.func48, Try.ntmps48
  go_wp2
  go_loop [0, 10] (fun r i => ∃ (k R : Nat), k ≤ s.size ∧ i = .int .i64 k ∧ r = .int .u32 (R : Int) ∧ R < 4294967296 ∧ Hid (reg R (s.data.toList.drop k) = reg (4294967295 - c) s.data.toList)) (fun _ i => s.size - (intOf i).toNat)
  case atStart => exact ⟨0, 4294967295 - c, by omega, rfl, rfl, by omega, rfl⟩
  case round =>
    obtain ⟨k, R, hk, rfl, rfl, hR, HR⟩ := hrel
    by_cases hlt : k < s.size
    · have hb8 := s[k].toNat_lt
      have hin := Crc.in8 R s[k].toNat hR (by omega)
      have hin2 := Crc.xor32 R s[k].toNat hR (by omega)
      have hlt32 : R ^^^ s[k].toNat < 4294967296 := Nat.xor_lt_two_pow (n := 32) hR (by omega)
      have hds := Lib.hid (Crc.drop_step s k hlt)
      go_wp2
      go_loop [0, 19] (fun r i => ∃ (j Q : Nat), j ≤ 8 ∧ i = .int .i64 j ∧ r = .int .u32 (Q : Int) ∧ Q < 4294967296 ∧ Hid (steps (8 - j) Q = byte R s[k])) (fun _ i => 8 - (intOf i).toNat)
      case atStart => exact ⟨0, _, by omega, rfl, rfl, hlt32, rfl⟩
      case round =>
        obtain ⟨j, Q, hj, rfl, rfl, hQ, HQ⟩ := hrel
        by_cases hlt8 : j < 8
        · have hpk := Crc.pick Q hQ
          have hsl := stp_lt hQ
          go_wp2
          go_round
          case rel => exact ⟨j + 1, stp Q, by omega, by go_num, rfl, hsl, by show steps _ _ = _; rw [← HQ.out, show 8 - j = (8 - (j + 1)) + 1 from by omega, steps]⟩
          case measure => simp [intOf]; omega
        · have hq : Q = byte R s[k] := by rw [← HQ.out, show 8 - j = 0 from by omega]; rfl
          have HQ2 := Lib.hid hq
          clear hq
          go_wp2
          go_round
          case rel => exact ⟨k + 1, Q, by omega, by go_num, rfl, hQ, by show reg _ _ = _; rw [← HR.out, hds.out, HQ2.out]; rfl⟩
          case measure => simp [intOf]; omega
    · have hf2 := Crc.flip32 R hR
      have hend : s.data.toList.drop k = [] := by
        have := toList_length s
        exact List.drop_eq_nil_of_le (by omega)
      have HE := Lib.hid hend
      clear hend
      go_wp2
      go_ret
      refine ⟨?_, rfl⟩
      have h2 := HR.out
      rw [HE.out] at h2
      unfold more
      rw [← h2]; rfl

theorem ref_stp (R : Nat) : stp R = (if R % 2 = 1 then (R / 2) ^^^ 2197175160 else R / 2) := rfl

set_option maxRecDepth 100000 in
set_option maxHeartbeats 1000000 in
theorem ref_more_walk (c : Nat) (s : ByteArray) (w : World) (hc : c < 4294967296) (hs : s.size ≤ maxLen) :
    Calls Try.prog 56 #[.int .u32 (c : Int), .string s] w fun e w' => e = .returned (.int .u32 (more c s.data.toList : Nat)) ∧ w = w' := by
  unfold maxLen at hs
  have hfl : (4294967295 : Int) - (c : Int) = ((4294967295 - c : Nat) : Int) := by omega
  go_enter Try.func56, Try.ntmps56
  go_wp2
  go_loop [5, 6] (fun r i => ∃ (k R : Nat), k ≤ s.size ∧ i = .int .i64 k ∧ r = .int .u32 (R : Int) ∧ R < 4294967296 ∧ Hid (reg R (s.data.toList.drop k) = reg (4294967295 - c) s.data.toList)) (fun _ i => s.size - (intOf i).toNat)
  case atStart => exact ⟨0, 4294967295 - c, by omega, rfl, rfl, by omega, rfl⟩
  case round =>
    obtain ⟨k, R, hk, rfl, rfl, hR, HR⟩ := hrel
    by_cases hlt : k < s.size
    · have hb8 := s[k].toNat_lt
      have hin := Crc.in8 R s[k].toNat hR (by omega)
      have hin2 := Crc.xor32 R s[k].toNat hR (by omega)
      have hlt32 : R ^^^ s[k].toNat < 4294967296 := Nat.xor_lt_two_pow (n := 32) hR (by omega)
      have hds := Lib.hid (Crc.drop_step s k hlt)
      go_wp2
      go_loop [5, 7] (fun r i => ∃ (j Q : Nat), j ≤ 8 ∧ i = .int .i64 j ∧ r = .int .u32 (Q : Int) ∧ Q < 4294967296 ∧ Hid (steps (8 - j) Q = byte R s[k])) (fun _ i => 8 - (intOf i).toNat)
      case atStart => exact ⟨0, _, by omega, rfl, rfl, hlt32, rfl⟩
      case round =>
        obtain ⟨j, Q, hj, rfl, rfl, hQ, HQ⟩ := hrel
        by_cases hlt8 : j < 8
        · have hsl := stp_lt hQ
          by_cases hodd : (Q : Int) % 2 = 1
          · have hb : ((Q : Int) % 2 == 1) = true := beq_iff_eq.2 hodd
            have hst : bits .xor .u32 ((Q : Int) / 2) 2197175160 = ((stp Q : Nat) : Int) := by
              rw [show ((Q : Int) / 2) = ((Q / 2 : Nat) : Int) from by omega, show (2197175160 : Int) = ((2197175160 : Nat) : Int) from rfl, Crc.xor32 _ _ (by omega) (by omega)]
              unfold stp; rw [if_pos (by omega)]
            clear hodd
            go_wp2
            go_round
            case rel => exact ⟨j + 1, stp Q, by omega, by go_num, rfl, hsl, by show steps _ _ = _; rw [← HQ.out, show 8 - j = (8 - (j + 1)) + 1 from by omega, steps]⟩
            case measure => simp [intOf]; omega
          · have hb : ((Q : Int) % 2 == 1) = false := beq_eq_false_iff_ne.2 hodd
            have hst : ((Q : Int) / 2) = ((stp Q : Nat) : Int) := by
              unfold stp; rw [if_neg (by omega)]; omega
            have HST := Lib.hid hst
            clear hodd hst
            go_wp2
            go_round
            case rel => exact ⟨j + 1, stp Q, by omega, by go_num, by rw [HST.out], hsl, by show steps _ _ = _; rw [← HQ.out, show 8 - j = (8 - (j + 1)) + 1 from by omega, steps]⟩
            case measure => simp [intOf]; omega
        · have hq : Q = byte R s[k] := by rw [← HQ.out, show 8 - j = 0 from by omega]; rfl
          have HQ2 := Lib.hid hq
          clear hq
          go_wp2
          go_round
          case rel => exact ⟨k + 1, Q, by omega, by go_num, rfl, hQ, by show reg _ _ = _; rw [← HR.out, hds.out, HQ2.out]; rfl⟩
          case measure => simp [intOf]; omega
    · have hf2 : (4294967295 : Int) - (R : Int) = ((4294967295 - R : Nat) : Int) := by omega
      have hend : s.data.toList.drop k = [] := by
        have := toList_length s
        exact List.drop_eq_nil_of_le (by omega)
      have HE := Lib.hid hend
      have HF := Lib.hid hf2
      clear hend hf2
      go_wp2
      go_ret
      refine ⟨?_, rfl⟩
      have h2 := HR.out
      rw [HE.out] at h2
      unfold more
      rw [← h2, ← show (4294967295 : Int) - (R : Int) = ((4294967295 - reg R [] : Nat) : Int) from HF.out]; rfl
end Go.Proofs.Yteckddlcecleaaa
