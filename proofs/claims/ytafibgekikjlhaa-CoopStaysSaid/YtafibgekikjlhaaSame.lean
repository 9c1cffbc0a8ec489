/- The walk of headgateref01.Same at slices that hold the same numbers. -/
import Derived.Test.YtafibgekikjlhaaRows
import Derived.Test.YtafibgekikjlhaaSlice
import Derived.WalkSpells
import Derived.WalkLawsBesides
import Derived.Lib.Hide
import Derived.Deep.QuietTactic
import Derived.BigQuiet
import Derived.IntWalk
namespace Go.Proofs.Ytafibgekikjlhaa
open Go.RowKit Vm
set_option linter.unusedVariables false

set_option maxRecDepth 100000 in
set_option maxHeartbeats 1000000 in
theorem same_yes (a b : Option Addr) (n c d B C : Nat) (xs : List Int) (w : World) (hn : n = xs.length) (hm : n ≤ 9223372036854775807) (ha : Sl w B a (i64s xs)) (hb : Sl w C b (i64s xs)) :
    Calls Try.prog 12 #[.slice a n c, .slice b n d] w fun e w' => e = .returned (.bool true) ∧ Drew w w' := by
  go_enter Try.func12, Try.ntmps12
  go_wp2
  go_loopw [5] (fun i wr => ∃ k : Nat, k ≤ n ∧ i = .int .i64 k ∧ Drew w wr) (fun i _ => n - (intOf i).toNat)
  case atStart => exact ⟨0, by omega, rfl, Drew.refl _⟩
  case round =>
    obtain ⟨k, hk, rfl, hd⟩ := hrel
    by_cases hlt : k < n
    · obtain ⟨b1, o1, rfl, _, h1⟩ := (ha.drew hd).at (j := k) (by rw [i64s_length]; omega)
      obtain ⟨b2, o2, rfl, _, h2⟩ := (hb.drew hd).at (j := k) (by rw [i64s_length]; omega)
      rw [i64s_at _ _ (by omega)] at h1 h2
      have hn2 := Lib.hid hn
      generalize hx : xs[k] = x at h1 h2
      clear hx hn2 hn
      have hxx : (x != x) = false := by simp
      have hw1 : IntKind.i64.wrap ((k : Int) + 1) = (k : Int) + 1 := IntWalk.i64_in _ (by omega)
      go_wp2
      go_quiet (fail)
      go_wp2
      go_roundw
      case rel => exact ⟨k + 1, by omega, by go_num, hd.trans (Drew.of _ _)⟩
      case measure => simp [intOf]; omega
    · go_wp2
      go_ret
      exact ⟨rfl, hd⟩
theorem same_at (a b : Option Addr) (n m c d B C : Nat) (xs : List Int) (w : World) (hn : n = xs.length) (hm : m = xs.length) (hl : n ≤ 9223372036854775807) (ha : Sl w B a (i64s xs)) (hb : Sl w C b (i64s xs)) :
    Calls Try.prog 12 #[.slice a n c, .slice b m d] w fun e w' => e = .returned (.bool true) ∧ Drew w w' := by
  subst hm; subst hn; exact same_yes a b _ c d B C xs w rfl hl ha hb
end Go.Proofs.Ytafibgekikjlhaa
