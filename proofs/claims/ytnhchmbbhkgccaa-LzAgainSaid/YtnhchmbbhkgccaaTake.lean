/- The walk of varint.Take: the number with which bytes begin, or none. -/
import Derived.Test.YtnhchmbbhkgccaaRows
import Derived.Test.YtnhchmbbhkgccaaKit
import Derived.WalkSpells
import Derived.WalkLawsBesides
import Derived.Lib.Hide
import Derived.Laws.Bits64b
import Derived.Deep.QuietTactic
import Derived.BigQuiet
import Derived.IntWalk
namespace Go.Proofs.Ytnhchmbbhkgccaa
open Go.RowKit Vm
set_option linter.unusedVariables false

namespace Take
theorem low (U : Nat) (h : U < 18446744073709551616) : bits .and .u64 (U : Int) 1 = (U : Int) % 2 := by
  have := bits_and_u64_nat U 1 h (by omega)
  rw [show ((1 : Nat) : Int) = 1 from rfl] at this
  rw [this, Nat.and_one_is_mod]
  omega
theorem flipped (U : Nat) (h : U < 18446744073709551616) : wrap64 (bits .xor .u64 IntKind.u64.max ((U : Int) / 2)) = -((U / 2 : Nat) : Int) - 1 := by
  have e3 : 18446744073709551615 ^^^ (U / 2) = 18446744073709551615 - U / 2 := by
    have hz : U / 2 < 2 ^ 64 := by omega
    apply Nat.eq_of_testBit_eq
    intro i
    rw [Nat.testBit_xor, show (18446744073709551615 : Nat) = 2 ^ 64 - 1 from rfl, Nat.testBit_two_pow_sub_one]
    rw [show 2 ^ 64 - 1 - U / 2 = 2 ^ 64 - (U / 2 + 1) from by omega, Nat.testBit_two_pow_sub_succ hz]
    by_cases hi : i < 64
    · simp [hi]
    · have : U / 2 < 2 ^ i := Nat.lt_of_lt_of_le hz (Nat.pow_le_pow_right (by omega) (by omega))
      simp [hi, Nat.testBit_lt_two_pow this]
  rw [show ((U : Int) / 2) = ((U / 2 : Nat) : Int) from by omega, show IntKind.u64.max = ((18446744073709551615 : Nat) : Int) from rfl, bits_xor_u64_nat _ _ (by omega) (by omega), e3]
  unfold wrap64
  omega
theorem orr (V k c : Nat) (hV : V < 128 ^ k) (hk : k ≤ 9) (hc : c < 256) :
    ∃ X : Nat, bits .or .u64 (V : Int) (IntKind.u64.wrap (IntKind.u64.wrap (bits .and .u8 (c : Int) 127) * 2 ^ (7 * k))) = (X : Int) ∧ X < 18446744073709551616 ∧ (k ≤ 8 ∨ c % 128 ≤ 1 → X = V + c % 128 * 128 ^ k) := by
  have hm : bits .and .u8 (c : Int) 127 = (c : Int) % 128 := bits_mask .u8 8 (by decide) wraps_u8 7 (by decide) c (by omega) (by omega)
  have hp : (2 : Int) ^ (7 * k) = ((128 ^ k : Nat) : Int) := by rw [Int.pow_mul]; simp
  have hle : 128 ^ k ≤ 128 ^ 9 := Nat.pow_le_pow_right (by omega) hk
  have e : IntKind.u64.wrap (IntKind.u64.wrap (bits .and .u8 (c : Int) 127) * 2 ^ (7 * k)) = ((c % 128 * 128 ^ k % 18446744073709551616 : Nat) : Int) := by
    rw [hm, hp]
    simp only [IntKind.wrap_u64]
    rw [show (c : Int) % 128 % 18446744073709551616 = ((c % 128 : Nat) : Int) from by omega, ← Int.natCast_mul]
    omega
  rw [e, bits_or_u64_nat _ _ (by omega) (Nat.mod_lt _ (by omega))]
  refine ⟨_, rfl, Nat.or_lt_two_pow (n := 64) (by omega) (Nat.mod_lt _ (by omega)), fun h => ?_⟩
  have hs : c % 128 * 128 ^ k < 18446744073709551616 := by
    rcases h with h | h
    · have h1 : 128 ^ k ≤ 128 ^ 8 := Nat.pow_le_pow_right (by omega) h
      have h2 : c % 128 * 128 ^ k ≤ 127 * 128 ^ 8 := Nat.mul_le_mul (by omega) h1
      omega
    · have h2 : c % 128 * 128 ^ k ≤ 1 * 128 ^ 9 := Nat.mul_le_mul h hle
      omega
  rw [Nat.mod_eq_of_lt hs]
  have e2 : 128 ^ k = 2 ^ (7 * k) := by rw [Nat.pow_mul]
  rw [Nat.mul_comm, e2, Nat.or_comm, ← Nat.two_pow_add_eq_or_of_lt (by rw [← e2]; exact hV), Nat.add_comm]
theorem a_none {s : ByteArray} (h : takeL s.data.toList = none) : takeA s = (0, [], 2) := by unfold takeA; rw [h]
theorem a_some {s : ByteArray} {n : Int} {r : List UInt8} (h : takeL s.data.toList = some (n, r)) : takeA s = (n, r, 0) := by unfold takeA; rw [h]
end Take

set_option maxRecDepth 100000 in
set_option maxHeartbeats 400000 in
theorem number_walk (U : Nat) (w : World) (h : U < 18446744073709551616) :
    Calls Try.prog 21 #[.int .u64 (U : Int)] w fun e w' => e = .returned (.int .i64 (unzig U)) ∧ w = w' := by
  have hlow := Take.low U h
  have hfl := Take.flipped U h
  by_cases h1 : (U : Int) % 2 = 1
  · have e : unzig U = -((U / 2 : Nat) : Int) - 1 := by unfold unzig; rw [if_pos (by omega)]
    have hb : ((U : Int) % 2 == 1) = true := beq_iff_eq.2 h1
    rw [← e] at hfl
    clear h1 e
    go_enter Try.func21, Try.ntmps21
    go_wp2
    go_ret
    exact ⟨rfl, rfl⟩
  · have e : unzig U = ((U / 2 : Nat) : Int) := by unfold unzig; rw [if_neg (by omega)]
    have hb : ((U : Int) % 2 == 1) = false := beq_eq_false_iff_ne.2 h1
    clear hfl h1
    go_enter Try.func21, Try.ntmps21
    go_wp2
    go_ret
    exact ⟨by rw [e]; simp, rfl⟩

set_option maxRecDepth 100000 in
set_option maxHeartbeats 2000000 in
theorem take_walk (s : ByteArray) (w : World) (hs : s.size ≤ maxLen) :
    Calls Try.prog 14 #[.string s] w fun e w' => e = .returned (.tuple #[.int .i64 (takeA s).1, .string (str (takeA s).2.1), .int .i64 (takeA s).2.2]) ∧ Drew w w' := by
  unfold maxLen at hs
  go_enter Try.func14, Try.ntmps14
  go_wp2
  go_loop [5, 6] (fun u i => ∃ (k : Nat) (V : Nat), k ≤ s.size ∧ k ≤ 10 ∧ i = .int .i64 k ∧ u = .int .u64 (V : Int) ∧ V < 18446744073709551616 ∧ Hid (Cont (s.data.toList.take k)) ∧ Hid (k ≤ 9 → V = val (s.data.toList.take k))) (fun _ i => s.size - (intOf i).toNat)
  case atStart => exact ⟨0, 0, by omega, by omega, rfl, rfl, by omega, fun b hb => by simp at hb, fun _ => by simp [val]⟩
  case round =>
    obtain ⟨k, V, hk, hk10, rfl, rfl, hV, hcont, HV⟩ := hrel
    by_cases hlt : k < s.size
    · by_cases hlt10 : k < 10
      · have hs1 := Lib.hid (toList_at s k hlt)
        have hlen := take_length s k hk
        have hV9 : V < 128 ^ k := by rw [HV.out (by omega)]; have := val_lt (s.data.toList.take k); rwa [hlen] at this
        obtain ⟨X, hX, hXlt, hXv⟩ := Take.orr V k s[k].toNat hV9 (by omega) (by have := s[k].toNat_lt; omega)
        have HX := Lib.hid hXv
        have HL := Lib.hid hlen
        clear hXv hlen hV9
        by_cases hc : 128 ≤ (s[k].toNat : Int)
        · go_wp2
          go_round
          case rel =>
            refine ⟨k + 1, X, by omega, by omega, by go_num, rfl, hXlt, ?_, ?_⟩
            · show Cont _
              rw [take_snoc s k hlt]; exact hcont.out.snoc (by omega)
            · intro h9
              rw [take_snoc s k hlt, val_snoc, HX.out (.inl (by omega)), HV.out (by omega), HL.out]
              have := s[k].toNat_lt
              congr 2; omega
          case measure => simp [intOf]; omega
        · have hc' : s[k].toNat < 128 := by omega
          have hdone : (k = 0 ∨ s[k].toNat ≠ 0) → (k = 9 → s[k].toNat ≤ 1) → takeA s = (unzig X, s.data.toList.drop (k + 1), 0) := fun h1 h2 => by
            have hx : X = V + s[k].toNat * 128 ^ k := by rw [HX.out (by omega), Nat.mod_eq_of_lt hc']
            rw [hx, HV.out (by omega)]
            have ht := take_done (s.data.toList.take k) (s.data.toList.drop (k + 1)) s[k] hcont.out hc' (by rw [HL.out]; omega)
              (by rcases h1 with h1 | h1; exact .inl (by rw [h1]; rfl); exact .inr h1) (fun e => h2 (by rw [HL.out] at e; exact e))
            rw [HL.out] at ht
            rw [← hs1.out] at ht
            exact Take.a_some ht
          by_cases h0 : 0 < k
          · by_cases hz : s[k].toNat = 0
            · have e0 := Take.a_none (s := s) (by rw [hs1.out]; exact take_zero _ _ _ hcont.out hz (by intro e; have := HL.out; rw [e] at this; simp at this; omega))
              have hzb : ((s[k].toNat : Int) == 0) = true := by simp; exact hz
              have HE := Lib.hid e0
              clear e0 hz hdone
              go_wp2
              go_ret3
              exact ⟨by rw [HE.out]; rfl, Drew.refl _⟩
            · have hzb : ((s[k].toNat : Int) == 0) = false := by simp; exact hz
              by_cases h9 : k = 9
              · have h9b : ((k : Int) == 9) = true := by simp; omega
                by_cases h1 : 1 < (s[k].toNat : Int)
                · have e0 := Take.a_none (s := s) (by rw [hs1.out]; exact take_big _ _ _ hcont.out (by rw [HL.out, h9]) (by omega) (by omega))
                  have HE := Lib.hid e0
                  clear e0 hz h9 hdone
                  go_wp2
                  go_ret3
                  exact ⟨by rw [HE.out]; rfl, Drew.refl _⟩
                · have HE := Lib.hid (hdone (.inr hz) (fun _ => by omega))
                  clear hz hdone h9
                  go_wp2
                  go_quiet ((go_at_call 21; exact quiet_of_eq (number_walk X _ hXlt)))
                  go_wp2
                  go_ret3
                  exact ⟨by rw [HE.out, str_drop]; rfl, Drew.of _ _⟩
              · have h9b : ((k : Int) == 9) = false := by simp; omega
                have HE := Lib.hid (hdone (.inr hz) (fun _ => by omega))
                clear hz hdone h9
                go_wp2
                go_quiet ((go_at_call 21; exact quiet_of_eq (number_walk X _ hXlt)))
                go_wp2
                go_ret3
                exact ⟨by rw [HE.out, str_drop]; rfl, Drew.of _ _⟩
          · have h9b : ((k : Int) == 9) = false := by simp; omega
            have HE := Lib.hid (hdone (.inl (by omega)) (fun _ => by omega))
            clear hdone
            go_wp2
            go_quiet ((go_at_call 21; exact quiet_of_eq (number_walk X _ hXlt)))
            go_wp2
            go_ret3
            exact ⟨by rw [HE.out, str_drop]; rfl, Drew.of _ _⟩
      · have e0 := Take.a_none (s := s) (by
          have : s.data.toList = s.data.toList.take k ++ s.data.toList.drop k := (List.take_append_drop _ _).symm
          rw [this]; exact take_ten _ _ hcont.out (by rw [take_length s k hk]; omega))
        have HE := Lib.hid e0
        clear e0
        go_wp2
        go_ret3
        exact ⟨by rw [HE.out]; rfl, Drew.refl _⟩
    · have e0 := Take.a_none (s := s) (by
        have hc := hcont.out
        have : s.data.toList.length = s.size := by show s.data.toList.length = s.data.size; simp
        rw [List.take_of_length_le (by omega)] at hc
        exact take_end _ hc)
      have HE := Lib.hid e0
      clear e0
      go_wp2
      go_ret3
      exact ⟨by rw [HE.out]; rfl, Drew.refl _⟩
end Go.Proofs.Ytnhchmbbhkgccaa
