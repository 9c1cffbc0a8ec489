/- The walk of crc.Unseal. -/
import Derived.Test.YteckddlcecleaaaCrc
import Derived.Deep.RegionHeld3
import Derived.Deep.QuietTactic
import Derived.BigQuiet
namespace Go.Proofs.Yteckddlcecleaaa
open Go.RowKit Vm Cm
set_option linter.unusedVariables false

set_option maxRecDepth 100000 in
set_option maxHeartbeats 2000000 in
theorem unseal_walk (s : ByteArray) (w : World) (hs : s.size ≤ maxLen) :
    Calls Try.prog 16 #[.string s] w fun e w' => e = .returned (.tuple #[.string (str (unsealA s.data.toList).1), .int .i64 (unsealA s.data.toList).2]) ∧ Below w.heap.size w w' := by
  have hsz := toList_length s
  unfold maxLen at hs
  by_cases h4 : s.size < 4
  · have hA : unsealA s.data.toList = ([], 2) := by unfold unsealA; rw [if_pos (by omega)]
    have HA := Lib.hid hA
    have hlt : ((s.size : Int) - 4) < 0 := by omega
    have hlt2 : decide (((s.size : Int) - 4) < 0) = true := by simpa using hlt
    have HS := Lib.hid hsz
    clear hA hsz
    go_enter Try.func16, Try.ntmps16
    go_wp2
    go_quiet (fail)
    go_wp2
    go_ret2
    exact ⟨by rw [HA.out]; rfl, below_drewN _ _ _⟩
  · obtain ⟨m, hm⟩ : ∃ m, s.size = m + 4 := ⟨s.size - 4, by omega⟩
    have hm4 : ((s.size : Int) - 4) = (m : Int) := by omega
    have hm0 : ¬ (m : Int) < 0 := by omega
    have hd0 : decide ((m : Int) < 0) = false := by simp
    have hle : m ≤ s.size := by omega
    have hle2 : (m : Int) ≤ (s.size : Int) := by omega
    have hts : (m : Int).toNat = m := by omega
    have hp : (s.extract 0 m).data.toList = s.data.toList.take m := by rw [← str_take, str_toList]
    have hxm : (s.extract 0 m).size ≤ maxLen := by
      have := toList_length (s.extract 0 m)
      rw [hp, List.length_take] at this
      unfold maxLen; omega
    have HXM := Lib.hid hxm
    have hcase : (s.extract m s.size = str (four (sum (s.data.toList.take m))) ∧ unsealA s.data.toList = (s.data.toList.take m, 0)) ∨ (s.extract m s.size ≠ str (four (sum (s.data.toList.take m))) ∧ unsealA s.data.toList = ([], 2)) := by
      have e : s.data.toList.length - 4 = m := by omega
      by_cases hq : s.data.toList.drop m = four (sum (s.data.toList.take m))
      · refine .inl ⟨by rw [← str_drop, hq], ?_⟩
        unfold unsealA; rw [if_neg (by omega), e, if_pos hq]
      · refine .inr ⟨by rw [← str_drop]; exact fun h => hq (str_inj h), ?_⟩
        unfold unsealA; rw [if_neg (by omega), e, if_neg hq]
    have HM := Lib.hid hm
    have HP := Lib.hid hp
    clear hm hp hsz hxm
    rcases hcase with ⟨he, hA⟩ | ⟨he, hA⟩
    · have hq1 : ((s.extract m s.size).toList == (str (four (sum (s.data.toList.take m)))).toList) = true := by rw [he]; exact bytes_eq _
      have HA := Lib.hid hA
      clear he hA
      go_enter Try.func16, Try.ntmps16
      go_wp2
      go_region_held3 (fun _ => True) (trivial) (first
        | (go_at_call 35; refine (sum_walk _ _ HXM.out).mono ?_; rintro e w1 ⟨rfl, rfl⟩)
        | (go_at_call 36; refine (laid_walk _ _ (sum_lt _)).mono ?_; rintro e w1 ⟨rfl, hb⟩))
      go_wp2
      go_ret2
      exact ⟨by rw [HA.out, str_take]; rfl, undrew hb⟩
    · have hq1 : ((s.extract m s.size).toList == (str (four (sum (s.data.toList.take m)))).toList) = false := bytes_ne he
      have HA := Lib.hid hA
      clear he hA
      go_enter Try.func16, Try.ntmps16
      go_wp2
      go_region_held3 (fun _ => True) (trivial) (first
        | (go_at_call 35; refine (sum_walk _ _ HXM.out).mono ?_; rintro e w1 ⟨rfl, rfl⟩)
        | (go_at_call 36; refine (laid_walk _ _ (sum_lt _)).mono ?_; rintro e w1 ⟨rfl, hb⟩))
      go_wp2
      go_ret2
      exact ⟨by rw [HA.out]; rfl, undrew hb⟩
end Go.Proofs.Yteckddlcecleaaa
