/- The walks of frame.Check and headgateref03.May. -/
import Derived.Test.YteckddlcecleaaaRows
import Derived.Test.YteckddlcecleaaaSlice
import Derived.Test.YteckddlcecleaaaFm
import Derived.WalkSpells
import Derived.WalkLawsBesides
import Derived.Lib.Hide
import Derived.Outline
namespace Go.Proofs.Yteckddlcecleaaa
open Go.RowKit Vm Cm Fm
set_option linter.unusedVariables false

/-- An entry's value. -/
abbrev ev (b n : Int) (t : ByteArray) : Value := .agg #[.int .i64 b, .int .i64 n, .string t]

set_option maxHeartbeats 1000000 in
theorem fcheck_yes (b n : Int) (t : ByteArray) (w : World) (hm : MayE b n t.data.toList) :
    Calls Try.prog 21 #[ev b n t] w fun e w' => e = .returned (.int .i64 0) ∧ Below w.heap.size w w' := by
  obtain ⟨h1, h2, h3, h4, h5⟩ := hm
  rw [toList_length] at h5
  have h6 : ¬ (65536 : Int) < (t.size : Int) := by omega
  have k1 : ¬ b < 0 := by omega
  have k2 : ¬ (1099511627776 : Int) < b := by omega
  have k3 : ¬ n < 1 := by omega
  have k4 : ¬ (64 : Int) < n := by omega
  go_enter Try.func21, Try.ntmps21
  go_wp2
  go_ret
  exact ⟨rfl, (Below.refl _ _).alloc (Nat.le_refl _) _⟩
set_option maxHeartbeats 1000000 in
theorem fcheck_no (b n : Int) (t : ByteArray) (w : World) (hm : ¬ MayE b n t.data.toList) :
    Calls Try.prog 21 #[ev b n t] w fun e w' => e = .returned (.int .i64 1) ∧ Below w.heap.size w w' := by
  have hm2 : b < 0 ∨ (¬ b < 0 ∧ 1099511627776 < b) ∨ (¬ b < 0 ∧ ¬ 1099511627776 < b ∧ n < 1) ∨ (¬ b < 0 ∧ ¬ 1099511627776 < b ∧ ¬ n < 1 ∧ 64 < n) ∨ (¬ b < 0 ∧ ¬ 1099511627776 < b ∧ ¬ n < 1 ∧ ¬ 64 < n ∧ (65536 : Int) < (t.size : Int)) := by
    unfold MayE at hm
    rw [toList_length] at hm
    omega
  clear hm
  rcases hm2 with h | ⟨h1, h⟩ | ⟨h1, h2, h⟩ | ⟨h1, h2, h3, h⟩ | ⟨h1, h2, h3, h4, h⟩
  all_goals
    go_enter Try.func21, Try.ntmps21
    go_wp2
    go_ret
    exact ⟨rfl, (Below.refl _ _).alloc (Nat.le_refl _) _⟩
set_option maxHeartbeats 1000000 in
theorem fmay_yes (b n : Int) (t : ByteArray) (w : World) (hm : MayE b n t.data.toList) :
    Calls Try.prog 39 #[ev b n t] w fun e w' => e = .returned (.bool true) ∧ Below w.heap.size w w' := by
  obtain ⟨h1, h2, h3, h4, h5⟩ := hm
  rw [toList_length] at h5
  have h6 : (t.size : Int) ≤ (65536 : Int) := by omega
  go_enter Try.func39, Try.ntmps39
  go_wp2
  go_ret
  exact ⟨rfl, (Below.refl _ _).alloc (Nat.le_refl _) _⟩
set_option maxHeartbeats 1000000 in
theorem fmay_no (b n : Int) (t : ByteArray) (w : World) (hm : ¬ MayE b n t.data.toList) :
    Calls Try.prog 39 #[ev b n t] w fun e w' => e = .returned (.bool false) ∧ Below w.heap.size w w' := by
  have hm2 : ¬ 0 ≤ b ∨ (0 ≤ b ∧ ¬ b ≤ 1099511627776) ∨ (0 ≤ b ∧ b ≤ 1099511627776 ∧ ¬ 1 ≤ n) ∨ (0 ≤ b ∧ b ≤ 1099511627776 ∧ 1 ≤ n ∧ ¬ n ≤ 64) ∨ (0 ≤ b ∧ b ≤ 1099511627776 ∧ 1 ≤ n ∧ n ≤ 64 ∧ ¬ (t.size : Int) ≤ (65536 : Int)) := by
    unfold MayE at hm
    rw [toList_length] at hm
    omega
  clear hm
  rcases hm2 with h | ⟨h1, h⟩ | ⟨h1, h2, h⟩ | ⟨h1, h2, h3, h⟩ | ⟨h1, h2, h3, h4, h⟩
  all_goals
    go_enter Try.func39, Try.ntmps39
    go_wp2
    go_ret
    exact ⟨rfl, (Below.refl _ _).alloc (Nat.le_refl _) _⟩
end Go.Proofs.Yteckddlcecleaaa
