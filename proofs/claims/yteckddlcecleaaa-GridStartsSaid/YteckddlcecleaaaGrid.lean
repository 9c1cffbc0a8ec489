/- The walks of grid.Check, headgateref14.May and of Closed. -/
import Derived.Test.YteckddlcecleaaaRows
import Derived.Test.YteckddlcecleaaaGm
import Derived.Test.YteckddlcecleaaaSlice
import Derived.WalkSpells
import Derived.WalkLawsBesides
import Derived.Lib.Hide
import Derived.Deep.QuietTactic
import Derived.BigQuiet
import Derived.IntWalk
namespace Go.Proofs.Yteckddlcecleaaa
open Go.RowKit Vm Gm
set_option linter.unusedVariables false

/-- A grid, as a value. -/
abbrev gv (s h l : Int) : Value := .agg #[.int .i64 s, .int .i64 h, .int .i64 l]

set_option maxRecDepth 100000 in
set_option maxHeartbeats 2000000 in
theorem check_yes (s h l : Int) (w : World) (hm : May s h l) :
    Calls Try.prog 32 #[gv s h l] w fun e w' => e = .returned (.int .i64 0) ∧ Below w.heap.size w w' := by
  obtain ⟨h1, h2, h3, h4, h5, h6, h7, h8⟩ := hm
  have hb : (s % h != 0) = false := by rw [h7]; rfl
  have H7 := Lib.hid h7
  clear h7
  go_enter Try.func32, Try.ntmps32
  go_wp2
  go_ret
  exact ⟨rfl, (Below.refl _ _).alloc (Nat.le_refl _) _⟩

set_option maxRecDepth 100000 in
set_option maxHeartbeats 2000000 in
theorem check_no (s h l : Int) (w : World) (hs : I64 s) (hh : I64 h) (hl : I64 l) (hm : ¬ May s h l) :
    Calls Try.prog 32 #[gv s h l] w fun e w' => e = .returned (.int .i64 1) ∧ Below w.heap.size w w' := by
  unfold I64 at hs hh hl
  by_cases h0 : s < 1 ∨ 1048576 < s ∨ h < 1 ∨ s < h ∨ l < 0 ∨ 1048576 < l
  · clear hm
    rcases h0 with h0 | h0 | h0 | h0 | h0 | h0
    all_goals
      go_enter Try.func32, Try.ntmps32
      go_wp2
      all_goals
        go_ret
        exact ⟨rfl, (Below.refl _ _).alloc (Nat.le_refl _) _⟩
  · have h1 : 1 ≤ s := by omega
    have h2 : s ≤ 1048576 := by omega
    have h3 : 1 ≤ h := by omega
    have h4 : h ≤ s := by omega
    have h5 : 0 ≤ l := by omega
    have h6 : l ≤ 1048576 := by omega
    clear h0
    by_cases h7 : s % h = 0
    · have hb : (s % h != 0) = false := by rw [h7]; rfl
      have h8 : 8 * h < s := by
        apply Classical.byContradiction
        intro h8
        exact hm ⟨h1, h2, h3, h4, h5, h6, h7, by omega⟩
      clear h7 hm
      go_enter Try.func32, Try.ntmps32
      go_wp2
      go_ret
      exact ⟨rfl, (Below.refl _ _).alloc (Nat.le_refl _) _⟩
    · have hb : (s % h != 0) = true := by rw [bne_iff_ne]; exact h7
      clear h7 hm
      go_enter Try.func32, Try.ntmps32
      go_wp2
      go_ret
      exact ⟨rfl, (Below.refl _ _).alloc (Nat.le_refl _) _⟩

set_option maxRecDepth 100000 in
set_option maxHeartbeats 2000000 in
theorem may_yes (s h l : Int) (w : World) (hm : May s h l) :
    Calls Try.prog 33 #[gv s h l] w fun e w' => e = .returned (.bool true) ∧ Below w.heap.size w w' := by
  obtain ⟨h1, h2, h3, h4, h5, h6, h7, h8⟩ := hm
  obtain ⟨n, hn⟩ : ∃ n : Nat, s = (n : Int) * h := ⟨(s / h).toNat, by
    have h10 : 0 ≤ s / h := Int.ediv_nonneg (by omega) (by omega)
    rw [Int.toNat_of_nonneg h10]
    exact (Int.ediv_mul_cancel (Int.dvd_of_emod_eq_zero h7)).symm⟩
  have hn1 : 1 ≤ n := by
    rcases n with _ | n
    · simp at hn; omega
    · omega
  have hn8 : n ≤ 8 := by
    apply Classical.byContradiction
    intro hc
    have : (9 : Int) * h ≤ (n : Int) * h := Int.mul_le_mul_of_nonneg_right (by omega) (by omega)
    omega
  have HN := Lib.hid hn
  clear hn h7 h8
  go_enter Try.func33, Try.ntmps33
  go_wp2
  go_loop [3] (fun i => ∃ k : Nat, 1 ≤ k ∧ k ≤ n ∧ i = .int .i64 k) (fun i => n - (intOf i).toNat)
  case atStart => exact ⟨1, by omega, by omega, rfl⟩
  case round =>
    obtain ⟨k, hk1, hk, rfl⟩ := hrel
    have hle : (k : Int) * h ≤ 8 * h := Int.mul_le_mul_of_nonneg_right (by omega) (by omega)
    have hge : 0 ≤ (k : Int) * h := Int.mul_nonneg (by omega) (by omega)
    by_cases he : k = n
    · have hb : ((k : Int) * h == s) = true := by rw [he, beq_iff_eq]; exact HN.out.symm
      have HK := Lib.hid he
      clear he
      go_wp2
      go_ret
      exact ⟨rfl, (Below.refl _ _).alloc (Nat.le_refl _) _⟩
    · have hb : ((k : Int) * h == s) = false := by
        rw [beq_eq_false_iff_ne, HN.out]
        intro e
        have := Int.eq_of_mul_eq_mul_right (by omega : h ≠ 0) e
        omega
      go_wp2
      go_round
      case rel => exact ⟨k + 1, by omega, by omega, by go_num⟩
      case measure => simp [intOf]; omega

set_option maxRecDepth 100000 in
set_option maxHeartbeats 2000000 in
theorem may_no (s h l : Int) (w : World) (hs : I64 s) (hh : I64 h) (hl : I64 l) (hm : ¬ May s h l) :
    Calls Try.prog 33 #[gv s h l] w fun e w' => e = .returned (.bool false) ∧ Below w.heap.size w w' := by
  unfold I64 at hs hh hl
  by_cases h0 : s < 1 ∨ 1048576 < s ∨ h < 1 ∨ s < h ∨ l < 0 ∨ 1048576 < l
  · clear hm
    rcases h0 with h0 | h0 | h0 | h0 | h0 | h0
    all_goals
      go_enter Try.func33, Try.ntmps33
      go_wp2
      all_goals
        go_ret
        exact ⟨rfl, (Below.refl _ _).alloc (Nat.le_refl _) _⟩
  · have h1 : 1 ≤ s := by omega
    have h2 : s ≤ 1048576 := by omega
    have h3 : 1 ≤ h := by omega
    have h4 : h ≤ s := by omega
    have h5 : 0 ≤ l := by omega
    have h6 : l ≤ 1048576 := by omega
    clear h0
    have hne : ∀ k : Nat, k ≤ 8 → (k : Int) * h ≠ s := fun k hk e => hm ⟨h1, h2, h3, h4, h5, h6, by rw [← e]; exact Int.mul_emod_left _ _, by
      rw [← e]; exact Int.mul_le_mul_of_nonneg_right (by omega) (by omega)⟩
    have HE := Lib.hid hne
    clear hne hm
    go_enter Try.func33, Try.ntmps33
    go_wp2
    go_loop [3] (fun i => ∃ k : Nat, 1 ≤ k ∧ k ≤ 9 ∧ i = .int .i64 k) (fun i => 9 - (intOf i).toNat)
    case atStart => exact ⟨1, by omega, by omega, rfl⟩
    case round =>
      obtain ⟨k, hk1, hk, rfl⟩ := hrel
      by_cases hlt : k ≤ 8
      · have hle : (k : Int) * h ≤ 8 * h := Int.mul_le_mul_of_nonneg_right (by omega) (by omega)
        have hge : 0 ≤ (k : Int) * h := Int.mul_nonneg (by omega) (by omega)
        have hb : ((k : Int) * h == s) = false := beq_eq_false_iff_ne.2 (HE.out k hlt)
        go_wp2
        go_round
        case rel => exact ⟨k + 1, by omega, by omega, by go_num⟩
        case measure => simp [intOf]; omega
      · go_wp2
        go_ret
        exact ⟨rfl, (Below.refl _ _).alloc (Nat.le_refl _) _⟩
end Go.Proofs.Yteckddlcecleaaa
