/- The walk of varint.Put: it returns the bytes of its number. -/
import Derived.Test.YtnhchmbbhkgccaaRows
import Derived.Test.YtnhchmbbhkgccaaVm
import Derived.WalkKit
import Derived.WalkSpells
import Derived.WalkLawsBesides
import Derived.WalkMore
import Derived.ScopeJumps
import Derived.Below
import Derived.Laws.IdiomStrings
import Derived.Laws.Bits64b
import Derived.Lib.Hide
namespace Go.Proofs.Ytnhchmbbhkgccaa
open Go.RowKit Vm
set_option linter.unusedVariables false

namespace Put
theorem mask (U : Nat) (h : U < 18446744073709551616) : bits .and .u64 (U : Int) 127 = ((U % 128 : Nat) : Int) := by
  have := bits_and_u64_nat U 127 h (by omega)
  rw [show ((127 : Nat) : Int) = 127 from rfl] at this
  rw [this, show (127 : Nat) = 2 ^ 7 - 1 from rfl, Nat.and_two_pow_sub_one_eq_mod]
theorem high (U : Nat) : bits .or .u8 ((U : Int) % 128) 128 = (U : Int) % 128 + 128 := by
  have : ∀ c : Fin 128, bits .or .u8 ((c.val : Nat) : Int) 128 = ((c.val + 128 : Nat) : Int) := by decide +kernel
  have h := this ⟨U % 128, by omega⟩
  simpa using h
theorem flip (n : Int) (h : n < 0) (hn : -9223372036854775808 ≤ n) : bits .xor .u64 IntKind.u64.max (IntKind.u64.wrap (IntKind.u64.wrap n * 2)) = (zig n : Int) := by
  have e : IntKind.u64.wrap (IntKind.u64.wrap n * 2) = ((18446744073709551615 - zig n : Nat) : Int) := by
    simp only [IntKind.wrap_u64]
    unfold zig; rw [if_pos h]; omega
  rw [e, show IntKind.u64.max = ((18446744073709551615 : Nat) : Int) from rfl, bits_xor_u64_nat _ _ (by omega) (by omega)]
  have hz : zig n < 2 ^ 64 := by unfold zig; rw [if_pos h]; omega
  have e3 : 18446744073709551615 ^^^ (18446744073709551615 - zig n) = zig n := by
    apply Nat.eq_of_testBit_eq
    intro i
    rw [Nat.testBit_xor, show (18446744073709551615 : Nat) = 2 ^ 64 - 1 from rfl, Nat.testBit_two_pow_sub_one]
    rw [show 2 ^ 64 - 1 - zig n = 2 ^ 64 - (zig n + 1) from by omega, Nat.testBit_two_pow_sub_succ hz]
    by_cases hi : i < 64
    · simp [hi]
    · have : zig n < 2 ^ i := Nat.lt_of_lt_of_le hz (Nat.pow_le_pow_right (by omega) (by omega))
      simp [hi, Nat.testBit_lt_two_pow this]
  rw [e3]

/-- The array behind some groups: those that are written, then zeros. -/
def Cells (C : Array Value) (done : List UInt8) : Prop :=
  C.size = 10 ∧ (∀ j (h : j < done.length), C[j]? = some (.int .u8 (done[j].toNat : Int))) ∧ ∀ j, done.length ≤ j → j < 10 → C[j]? = some (.int .u8 0)
theorem Cells.put {C : Array Value} {done : List UInt8} (h : Cells C done) (hk : done.length < 10) (c : UInt8) {v : Int} (hv : v = (c.toNat : Int)) :
    Cells (C.setIfInBounds done.length (.int .u8 v)) (done ++ [c]) := by
  obtain ⟨h1, h2, h3⟩ := h
  refine ⟨by simpa using h1, fun j hj => ?_, fun j hj hj' => ?_⟩
  · rw [Array.getElem?_setIfInBounds]
    by_cases e : done.length = j
    · subst e
      rw [if_pos rfl, if_pos (by omega), hv]
      simp
    · rw [if_neg e]
      simp at hj
      rw [h2 j (by omega), List.getElem_append_left (by omega)]
  · rw [Array.getElem?_setIfInBounds]
    simp at hj
    rw [if_neg (by omega), h3 j (by omega) hj']

def J (B : Nat) (w : World) (all : List UInt8) (a' : Act) (w' : World) : Prop :=
  ∃ (k U : Nat) (done : List UInt8) (C : Array Value) (u0 u1 u2 u6 u7 u8 u9 u10 u11 u12 u13 u14 u15 u16 u17 u18 u19 u20 u21 u22 u23 u24 u25 u26 u27 u28 u29 u30 u31 u32 : Value),
    a' = { tmps := #[u0, u1, u2, .int .u64 (U : Int), .pointer (some ⟨B, 0, none⟩), .int .i64 (k : Int), u6, u7, u8, u9, u10, u11, u12, u13, u14, u15, u16, u17, u18, u19, u20, u21, u22, u23, u24, u25, u26, u27, u28, u29, u30, u31, u32], defers := [] } ∧ w' = w.alloc (.cells C 62) ∧ done.length = k ∧ k ≤ 9 ∧ U * 128 ^ k ≤ 18446744073709551615 ∧ Cells C done ∧ done ++ enc U = all
def mu (a' : Act) (_ : World) : Nat := 9 - (intOf (a'.tmps.getD 5 undef)).toNat
theorem Cells.zero : Cells #[Value.int IntKind.u8 0, Value.int IntKind.u8 0, Value.int IntKind.u8 0, Value.int IntKind.u8 0, Value.int IntKind.u8 0, Value.int IntKind.u8 0, Value.int IntKind.u8 0, Value.int IntKind.u8 0, Value.int IntKind.u8 0, Value.int IntKind.u8 0] [] := by
  refine ⟨rfl, fun j h => by simp at h, fun j _ hj => ?_⟩
  rcases j with _ | _ | _ | _ | _ | _ | _ | _ | _ | _ | j <;> first | rfl | omega

/-- The text of the first groups of the array. -/
theorem conv {w : World} {C : Array Value} {done : List UInt8} (h : Cells C done) (k : Nat) (hk : done.length = k) :
    (convert 32 9 (.slice (some ⟨w.heap.size, 0, none⟩) k 10)).run Try.prog (w.alloc (.cells C 62)) = .ok (.string (str done)) (w.alloc (.cells C 62)) := by
  subst hk
  exact run_convert_bytes_back _ 32 9 5 ⟨w.heap.size, 0, none⟩ 10 done Try.underlying32 Try.underlying5 Try.underlying9 fun j hj => by
    have := World.cell?_alloc_mark w C 62 (0, 0) j
    simp only [Addr.add]
    split
    · next e => subst e; exact this.trans (h.2.1 _ hj)
    · next e => simpa using this.trans (h.2.1 j hj)
set_option maxRecDepth 100000 in
theorem cut (a : Addr) (k : Nat) (hk : k ≤ 9) (w : World) :
    (Instr.sliceAt 62 (.pointer (some a)) none (some (.int .i64 ((k : Int) + 1))) none).run Try.prog w = .ok (.slice (some a) (k + 1) 10) w := by
  have hl : Try.prog.arrayLen 62 = 10 := by kernel_rfl
  have hs : ∀ w : World, (sizeOf (Try.prog.elem 62)).run Try.prog w = .ok 1 w := fun _ => by kernel_rfl
  rw [run_sliceAt_array_h (ht := Try.underlying62) (h0 := by omega) (h2 := by rw [hl]; omega), hs, hl]
  simp [Result.andThen, slicedAt, Addr.add]

theorem step {V k : Nat} (h : V * 128 ^ k ≤ 18446744073709551615) : V / 128 * 128 ^ (k + 1) ≤ 18446744073709551615 := by
  have h1 : V / 128 * 128 ≤ V := Nat.div_mul_le_self _ _
  have h2 := Nat.mul_le_mul_right (128 ^ k) h1
  rw [Nat.pow_succ, Nat.mul_comm (128 ^ k) 128, ← Nat.mul_assoc]
  omega
theorem room {V k : Nat} (h : V * 128 ^ k ≤ 18446744073709551615) (hk : k ≤ 9) (hV : 128 ≤ V) : k < 9 := by
  rcases Nat.lt_or_ge k 9 with h9 | h9
  · exact h9
  · obtain rfl : k = 9 := by omega
    have h2 := Nat.mul_le_mul_right (128 ^ 9) hV
    omega
theorem small {V k : Nat} (h : V * 128 ^ k ≤ 18446744073709551615) : V < 18446744073709551616 := by
  have h1 : 1 ≤ 128 ^ k := Nat.pos_of_ne_zero (by simp)
  have h2 := Nat.mul_le_mul_left V h1
  omega
theorem starts (n : Int) (U : Nat) (hU : U = zig n) (hn : I64 n) :
    (n < 0 ∧ bits .xor .u64 IntKind.u64.max (IntKind.u64.wrap (IntKind.u64.wrap n * 2)) = (U : Int)) ∨ (0 ≤ n ∧ n * 2 = (U : Int)) := by
  unfold I64 at hn
  by_cases h : n < 0
  · exact .inl ⟨h, by rw [hU]; exact flip n h (by omega)⟩
  · exact .inr ⟨by omega, by rw [hU]; unfold zig; rw [if_neg h]; omega⟩
end Put

set_option maxRecDepth 100000 in
set_option maxHeartbeats 2000000 in
/-- varint.Put returns the bytes of its number; it makes memory of its own alone. -/
theorem put_walk (n : Int) (w : World) (hn : I64 n) :
    Calls Try.prog 27 #[.int .i64 n] w fun e w' => e = .returned (.string (str (putL n))) ∧ Below w.heap.size w w' := by
  have hz := zig_lt hn
  obtain ⟨U, hU⟩ : ∃ U : Nat, U = zig n := ⟨_, rfl⟩
  rw [← hU] at hz
  have hall : enc U = putL n := by rw [hU]; rfl
  have hmask := Put.mask U (by omega)
  have hhigh := Put.high U
  have hc0 : Put.Cells #[.int .u8 ((U : Int) % 128), .int .u8 0, .int .u8 0, .int .u8 0, .int .u8 0, .int .u8 0, .int .u8 0, .int .u8 0, .int .u8 0, .int .u8 0] [UInt8.ofNat (U % 128)] := Put.Cells.zero.put (by simp) (UInt8.ofNat (U % 128)) (v := (U : Int) % 128) (by rw [toNat_small (by omega)]; omega)
  have hc1 : Put.Cells #[.int .u8 ((U : Int) % 128 + 128), .int .u8 0, .int .u8 0, .int .u8 0, .int .u8 0, .int .u8 0, .int .u8 0, .int .u8 0, .int .u8 0, .int .u8 0] [UInt8.ofNat (U % 128 + 128)] := Put.Cells.zero.put (by simp) (UInt8.ofNat (U % 128 + 128)) (v := (U : Int) % 128 + 128) (by rw [toNat_small (by omega)]; omega)
  have hv := Put.conv (w := w) hc0 1 (by simp)
  have hs := Put.starts n U hU hn
  unfold I64 at hn
  have HU := Lib.hid hU
  have HA := Lib.hid hall
  clear hU hall hc0
  rcases hs with ⟨h0, hfl⟩ | ⟨h0, hfl⟩
  all_goals
    go_enter Try.func27, Try.ntmps27
    go_wp2
    refine wp_scope_jumps 0 (Put.J w.heap.size w (putL n)) Put.mu rfl ?_ ?_
    · go_wp2
      go_step3
      go_wp2
      · have hbig : 0 < (U : Int) / 128 := by assumption
        go_step3
        refine ⟨rfl, 1, U / 128, [UInt8.ofNat (U % 128 + 128)], _, _, _, _, _, _, _, _, _, _, _, _, _, _, _, _, _, _, _, _, _, _, _, _, _, _, _, _, _, _, _, rfl, rfl, rfl, by omega, Put.step (k := 0) (by omega), hc1, ?_⟩
        rw [← HA.out, enc_big (u := U) (by omega)]; rfl
      · have hsm : (U : Int) / 128 ≤ 0 := by assumption
        simp only [Exit.jump]
        go_ret
        refine ⟨?_, (Below.refl _ _).alloc (Nat.le_refl _) _⟩
        rw [← HA.out, enc_small (u := U) (by omega)]
        simp [Nat.mod_eq_of_lt (show U < 128 by omega)]
    · clear hmask hhigh hc1 hv hfl
      rintro a' w' ⟨k, V, done, C, u0, u1, u2, u6, u7, u8, u9, u10, u11, u12, u13, u14, u15, u16, u17, u18, u19, u20, u21, u22, u23, u24, u25, u26, u27, u28, u29, u30, u31, u32, rfl, rfl, hk, hk9, hV, hC, hdone⟩
      have hmaskV := Put.mask V (Put.small hV)
      have hhighV := Put.high V
      have hC0 := hC.put (by omega) (UInt8.ofNat (V % 128)) (v := (V : Int) % 128) (by rw [toNat_small (by omega)]; omega)
      have hC1 := hC.put (by omega) (UInt8.ofNat (V % 128 + 128)) (v := (V : Int) % 128 + 128) (by rw [toNat_small (by omega)]; omega)
      have hvV := Put.conv (w := w) hC0 (k + 1) (by simp [hk])
      have hget : (C.setIfInBounds k (.int .u8 ((V : Int) % 128)))[k]? = some (.int .u8 ((V : Int) % 128)) := by
        rw [Array.getElem?_setIfInBounds, if_pos rfl, if_pos (by rw [hC.1]; omega)]
      have hCk : C[k]? = some (.int .u8 0) := hC.2.2 k (by omega) (by omega)
      have hsl := Put.cut ⟨w.heap.size, 0, none⟩ k hk9
      rw [hk] at hvV hC0 hC1
      have hsz := hC.1
      have HK := Lib.hid hk
      have HD := Lib.hid hdone
      have HV := Lib.hid hV
      clear hk hdone hC0 hV
      go_wp2
      · have hbig : 0 < (V : Int) / 128 := by assumption
        have hk8 := Put.room HV.out hk9 (by omega)
        go_step3
        refine ⟨rfl, ⟨k + 1, V / 128, done ++ [UInt8.ofNat (V % 128 + 128)], _, _, _, _, _, _, _, _, _, _, _, _, _, _, _, _, _, _, _, _, _, _, _, _, _, _, _, _, _, _, _, rfl, rfl, by simp [HK.out], by omega, Put.step HV.out, hC1, ?_⟩, ?_⟩
        · rw [← HD.out, enc_big (u := V) (by omega)]; simp
        · simp [Put.mu, intOf]; omega
      · have hsm : (V : Int) / 128 ≤ 0 := by assumption
        simp only [Exit.jump]
        go_ret
        refine ⟨?_, (Below.refl _ _).alloc (Nat.le_refl _) _⟩
        rw [← HD.out, enc_small (u := V) (by omega)]
        simp [Nat.mod_eq_of_lt (show V < 128 by omega)]
end Go.Proofs.Ytnhchmbbhkgccaa
