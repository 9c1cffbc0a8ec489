/- The walks of txn.Each and headgateref12.Each: the bits of a mask. -/
import Derived.Test.YtfjnmjibifefgaaTxBeh
import Derived.Test.YtfjnmjibifefgaaVm
import Derived.Test.YtfjnmjibifefgaaTakeAll
namespace Go.Proofs.Ytfjnmjibifefgaa
open Go.RowKit Vm
set_option linter.unusedVariables false

theorem and_toNat (x M : Int) (hM : 0 ≤ M ∧ M < 4611686018427387904) : bits .and .i64 x M = (((x % 18446744073709551616).toNat &&& M.toNat : Nat) : Int) := by
  have e : bits .and .i64 x M = IntKind.i64.wrap ((BitVec.ofInt 64 x &&& BitVec.ofInt 64 M).toNat : Int) := rfl
  have h1 : (BitVec.ofInt 64 x).toNat = (x % 18446744073709551616).toNat := by rw [BitVec.toNat_ofInt]; rfl
  have h2 : (BitVec.ofInt 64 M).toNat = M.toNat := by rw [BitVec.toNat_ofInt]; omega
  have h3 : (x % 18446744073709551616).toNat &&& M.toNat ≤ M.toNat := Nat.and_le_right
  rw [e, BitVec.toNat_and, h1, h2, IntKind.wrap_i64]
  omega
theorem and_one (x : Int) : bits .and .i64 x 1 = x % 2 := by
  rw [and_toNat x 1 (by omega), show (1 : Int).toNat = 2 ^ 1 - 1 from rfl, Nat.and_two_pow_sub_one_eq_mod]
  omega
theorem and_13 (x : Int) : bits .and .i64 x 8191 = x % 8192 := by
  rw [and_toNat x 8191 (by omega), show (8191 : Int).toNat = 2 ^ 13 - 1 from rfl, Nat.and_two_pow_sub_one_eq_mod]
  omega
theorem nat_and_pow (X k : Nat) : X &&& 2 ^ k ≠ 0 ↔ X / 2 ^ k % 2 = 1 := by
  rw [show X / 2 ^ k % 2 = 1 ↔ X.testBit k = true by rw [Nat.testBit_eq_decide_div_mod_eq]; simp]
  constructor
  · intro h
    rcases hb : X.testBit k with _ | _
    · refine absurd (Nat.eq_of_testBit_eq fun i => ?_) h
      rw [Nat.testBit_and, Nat.testBit_two_pow, Nat.zero_testBit]
      by_cases hk : k = i
      · subst hk; rw [hb]; rfl
      · simp [hk]
    · rfl
  · intro h h0
    have : (X &&& 2 ^ k).testBit k = true := by rw [Nat.testBit_and, h, Nat.testBit_two_pow]; simp
    rw [h0, Nat.zero_testBit] at this
    cases this
theorem and_pow (x : Int) (k : Nat) (hk : k < 13) : (bits .and .i64 x ((2 : Int) ^ k) ≠ 0) ↔ x / (2 : Int) ^ k % 2 = 1 := by
  have hp : 2 ^ k < 2 ^ 13 := Nat.pow_lt_pow_right (by omega) hk
  have hc : (2 : Int) ^ k = ((2 ^ k : Nat) : Int) := by simp
  have hm : (0 : Int) ≤ ((2 ^ k : Nat) : Int) ∧ ((2 ^ k : Nat) : Int) < 4611686018427387904 := by
    generalize 2 ^ k = K at *
    omega
  rw [hc, and_toNat x _ hm, Int.toNat_natCast]
  have h1 := nat_and_pow (x % 18446744073709551616).toNat k
  have : k = 0 ∨ k = 1 ∨ k = 2 ∨ k = 3 ∨ k = 4 ∨ k = 5 ∨ k = 6 ∨ k = 7 ∨ k = 8 ∨ k = 9 ∨ k = 10 ∨ k = 11 ∨ k = 12 := by omega
  have h2 : (x % 18446744073709551616).toNat / 2 ^ k % 2 = 1 ↔ x / ((2 ^ k : Nat) : Int) % 2 = 1 := by
    clear h1 hp hc hm
    rcases this with rfl | rfl | rfl | rfl | rfl | rfl | rfl | rfl | rfl | rfl | rfl | rfl | rfl <;> simp only [Nat.reducePow] <;> omega
  rw [← h2, ← h1]
  generalize (x % 18446744073709551616).toNat &&& 2 ^ k = z
  omega
def eachF (x : Int) : Nat → List Int
  | 0 => []
  | k + 1 => if x / (2 : Int) ^ k % 2 = 1 then eachF x k ++ [(k : Int)] else eachF x k
theorem eachF_len (x : Int) (k : Nat) : (eachF x k).length ≤ k := by
  induction k with
  | zero => simp [eachF]
  | succ k ih => unfold eachF; split <;> first | omega | (simp; omega)
def EaPost (w : World) (l : List Int) (e : Ending) (w' : World) : Prop := ∃ a c, e = .returned (.slice a l.length c) ∧ Sl w' w'.heap.size a (i64s l) ∧ Below w.heap.size w w'
set_option maxRecDepth 100000 in
set_option maxHeartbeats 4000000 in
theorem each_walk (x : Int) (w : World) (hx : I64 x) :
    Calls Try.prog 38 #[.int .i64 x] w (EaPost w (eachF x 13)) := by
  obtain ⟨i0, hi, hz0, hz1, hz2⟩ := info_parts info_i64
  have HX := Lib.hid hx
  go_enter Try.func38, Try.ntmps38
  go_wp2_with fail
  go_loopw [3, 5] (fun R I wr => ∃ (k : Nat), k ≤ 13 ∧ I = .int .i64 k ∧ wr.ownsRow w.heap.size 3 1 R (eachF x k).length (i64s (eachF x k)) ∧ Below w.heap.size w wr) (fun _ I _ => 13 - (intOf I).toNat)
  case atStart => exact ⟨0, by omega, rfl, by simpa [i64s, eachF] using World.ownsRow_nil _ _ _ _, Below.refl _ _⟩
  case round =>
    obtain ⟨k, hk, rfl, hown, hb⟩ := hrel
    by_cases hlt : k < 13
    · have hA := and_one (x / (2 : Int) ^ k)
      have hE : eachF x (k + 1) = if x / (2 : Int) ^ k % 2 = 1 then eachF x k ++ [(k : Int)] else eachF x k := rfl
      have hl := eachF_len x k
      by_cases hbit : x / (2 : Int) ^ k % 2 = 1
      · rw [if_pos hbit] at hE
        have HE := Lib.hid hE
        have hb1 : (bits .and .i64 (x / (2 : Int) ^ k) 1 == 1) = true := by rw [hA, hbit]; rfl
        generalize eachF x k = D at *
        clear hE hA hbit
        go_wp2_with (at_builtin; refine wpList_append_own _ rfl _ _ 39 rfl w.heap.size 3 i0 (.int .i64 0) 1 8 Try.underlying39 hi hz0 hz1 hz2 rfl (by decide) _ _ _ rfl (hown.alloc _) ⟨wr.heap.size, 0, none⟩ 1 1 [.int .i64 k] rfl rfl ?c1 ?c2 ?c3 ?c4 ?c5 ?_)
        case c1 =>
          intro j u hj
          match j, hj with
          | 0, hj => simp at hj; subst hj; simp [Addr.add]
        case c2 => intro u hu; simp at hu; subst hu; rfl
        case c3 => unfold maxLen; omega
        case c4 => omega
        case c5 => exact Nat.le_trans hb.size (by simp)
        intro v' w3 hown' hgrow _
        have hb3 := (hb.alloc hb.size _).grown hgrow (by have := hb.size; simp; omega) (fun k hk => (hown.lt k hk).1)
        have hown3 : w3.ownsRow w.heap.size 3 1 v' (eachF x (k + 1)).length (i64s (eachF x (k + 1))) := by
          rw [HE.out, i64s_snoc]; simpa using hown'
        clear hown' hgrow hown hb
        go_wp2
        go_roundw
        case rel => exact ⟨k + 1, by omega, by go_num, hown3, hb3⟩
        case measure => simp [intOf]; omega
      · rw [if_neg hbit] at hE
        have HE := Lib.hid hE
        have hb1 : (bits .and .i64 (x / (2 : Int) ^ k) 1 == 1) = false := beq_eq_false_iff_ne.2 (by rw [hA]; exact hbit)
        clear hE hA hbit
        go_wp2_with fail
        go_roundw
        case rel => exact ⟨k + 1, by omega, by go_num, by rw [HE.out]; exact hown, hb⟩
        case measure => simp [intOf]; omega
    · obtain rfl : k = 13 := by omega
      obtain ⟨a6, c6, rfl, _⟩ := Sl.own hown
      have sl := own_sl hown
      go_wp2
      go_ret
      exact ⟨a6, c6, rfl, sl, hb⟩
set_option maxRecDepth 100000 in
set_option maxHeartbeats 4000000 in
theorem reach_walk (x : Int) (w : World) (hx : I64 x) :
    Calls Try.prog 39 #[.int .i64 x] w (EaPost w (eachF x 13)) := by
  obtain ⟨i0, hi, hz0, hz1, hz2⟩ := info_parts info_i64
  have HX := Lib.hid hx
  go_enter Try.func39, Try.ntmps39
  go_wp2_with fail
  go_loopw [3, 4, 5] (fun R T I wr => ∃ (k : Nat), k ≤ 13 ∧ I = .int .i64 k ∧ T = .int .i64 ((2 : Int) ^ k) ∧ wr.ownsRow w.heap.size 3 1 R (eachF x k).length (i64s (eachF x k)) ∧ Below w.heap.size w wr) (fun _ _ I _ => 13 - (intOf I).toNat)
  case atStart => exact ⟨0, by omega, rfl, by simp, by simpa [i64s, eachF] using World.ownsRow_nil _ _ _ _, Below.refl _ _⟩
  case round =>
    obtain ⟨k, hk, rfl, rfl, hown, hb⟩ := hrel
    by_cases hlt : k < 13
    · have hA := and_pow x k hlt
      have hE : eachF x (k + 1) = if x / (2 : Int) ^ k % 2 = 1 then eachF x k ++ [(k : Int)] else eachF x k := rfl
      have hl := eachF_len x k
      have hp1 : (2 : Int) ^ (k + 1) = (2 : Int) ^ k * 2 := Int.pow_succ _ _
      have hp2 : 1 ≤ (2 : Int) ^ k ∧ (2 : Int) ^ k ≤ 4096 := by
        have h1 : 2 ^ k ≤ 2 ^ 12 := Nat.pow_le_pow_right (by omega) (by omega)
        have h2 : 1 ≤ 2 ^ k := Nat.one_le_two_pow
        have hc : (2 : Int) ^ k = ((2 ^ k : Nat) : Int) := by simp
        omega
      have HP := Lib.hid hp1
      by_cases hbit : x / (2 : Int) ^ k % 2 = 1
      · rw [if_pos hbit] at hE
        have HE := Lib.hid hE
        have hb1 : (bits .and .i64 x ((2 : Int) ^ k) != 0) = true := by simpa using hA.2 hbit
        generalize eachF x k = D at *
        generalize (2 : Int) ^ k = T at *
        have hw : IntKind.i64.wrap (T * 2) = T * 2 := IntWalk.i64_in _ (by omega)
        clear hE hA hbit hp1
        go_wp2_with (at_builtin; refine wpList_append_own _ rfl _ _ 39 rfl w.heap.size 3 i0 (.int .i64 0) 1 8 Try.underlying39 hi hz0 hz1 hz2 rfl (by decide) _ _ _ rfl (hown.alloc _) ⟨wr.heap.size, 0, none⟩ 1 1 [.int .i64 k] rfl rfl ?c1 ?c2 ?c3 ?c4 ?c5 ?_)
        case c1 =>
          intro j u hj
          match j, hj with
          | 0, hj => simp at hj; subst hj; simp [Addr.add]
        case c2 => intro u hu; simp at hu; subst hu; rfl
        case c3 => unfold maxLen; omega
        case c4 => omega
        case c5 => exact Nat.le_trans hb.size (by simp)
        intro v' w3 hown' hgrow _
        have hb3 := (hb.alloc hb.size _).grown hgrow (by have := hb.size; simp; omega) (fun k hk => (hown.lt k hk).1)
        have hown3 : w3.ownsRow w.heap.size 3 1 v' (eachF x (k + 1)).length (i64s (eachF x (k + 1))) := by
          rw [HE.out, i64s_snoc]; simpa using hown'
        clear hown' hgrow hown hb
        go_wp2
        go_roundw
        case rel => exact ⟨k + 1, by omega, by go_num, by rw [HP.out], hown3, hb3⟩
        case measure => simp [intOf]; omega
      · rw [if_neg hbit] at hE
        have HE := Lib.hid hE
        have hb1 : (bits .and .i64 x ((2 : Int) ^ k) != 0) = false := by
          rcases h : (bits .and .i64 x ((2 : Int) ^ k) != 0) with _ | _
          · rfl
          · exact absurd (hA.1 (by simpa using h)) hbit
        generalize (2 : Int) ^ k = T at *
        have hw : IntKind.i64.wrap (T * 2) = T * 2 := IntWalk.i64_in _ (by omega)
        clear hE hA hbit hp1
        go_wp2_with fail
        go_roundw
        case rel => exact ⟨k + 1, by omega, by go_num, by rw [HP.out], by rw [HE.out]; exact hown, hb⟩
        case measure => simp [intOf]; omega
    · obtain rfl : k = 13 := by omega
      obtain ⟨a6, c6, rfl, _⟩ := Sl.own hown
      have sl := own_sl hown
      go_wp2
      go_ret
      exact ⟨a6, c6, rfl, sl, hb⟩
end Go.Proofs.Ytfjnmjibifefgaa
