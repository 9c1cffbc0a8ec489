/- The walk of the statement FrameOnly of layer 3. -/
import Derived.Test.YteckddlcecleaaaLFrameTakes
namespace Go.Proofs.Yteckddlcecleaaa
open Go.RowKit Vm Cm Fm
set_option linter.unusedVariables false

set_option maxRecDepth 100000 in
set_option maxHeartbeats 2000000 in
theorem frameOnly_law (s : ByteArray) (w : World) (hs : s.size ≤ 140737488351232) :
    Calls Try.prog 7 #[.string s] w fun e w' => e = .returned (.bool true) ∧ Below w.heap.size w w' := by
  have hs2 : s.size ≤ 140737488355328 := by omega
  by_cases hl : (s.size : Int) ≤ 100000
  · rcases fr_or s.data.toList with ⟨b, n, t, r, hf⟩ | hf
    · have H1 := Lib.hid (fun w => ftake_yes s b n t r w hs2 hf)
      have hm := hf.1
      have H2 := fun w => flay_yes b n (str t) w (by rw [str_toList]; exact hm)
      rw [str_toList] at H2
      have H2' := Lib.hid H2
      have hcat : str (frameL b n t) ++ str r = s := by
        rw [← str_data s, hf.2]
        apply ByteArray.ext
        rw [ByteArray.data_append]; simp [str]
      have hq := bytes_eq s
      have hsum : ¬ (9223372036854775807 < (str (frameL b n t)).size + (str r).size) := by
        have := congrArg ByteArray.size hcat
        rw [ByteArray.size_append] at this
        omega
      have hcat2 : str (frameL b n t ++ r) = s := by rw [← hcat]; apply ByteArray.ext; rw [ByteArray.data_append]; simp [str]
      clear hf H2 hm
      generalize frameL b n t = F at *
      go_enter Try.func7, Try.ntmps7
      go_wp2_with fail
      refine (light_yes s _ hl).mono ?_
      rintro e w1 ⟨rfl, rfl⟩
      go_wp2_with fail
      refine (H1.out _).mono ?_
      rintro e w1 ⟨rfl, g1⟩
      have hal1 := g1.alloc g1.size (.cells #[.int .i64 b, .int .i64 n, .string (str t)] 31)
      clear g1
      go_wp2_with fail
      refine (H2'.out _).mono ?_
      rintro e w2 ⟨rfl, g2⟩
      have hb2 := gtrans hal1 g2
      clear g2 hal1
      go_wp2_with fail
      refine (awake3_walk _).mono ?_
      rintro e w3 ⟨rfl, g3⟩
      go_wp2_with fail
      go_ret
      exact ⟨rfl, gtrans hb2 g3⟩
    · have H1 := Lib.hid (fun w => ftake_no s w hs2 hf)
      have hq1 := bytes_eq ⟨#[]⟩
      clear hf
      go_enter Try.func7, Try.ntmps7
      go_wp2_with fail
      refine (light_yes s _ hl).mono ?_
      rintro e w1 ⟨rfl, rfl⟩
      go_wp2_with fail
      refine (H1.out _).mono ?_
      rintro e w1 ⟨rfl, g1⟩
      have hal1 := g1.alloc g1.size (.cells #[.int .i64 0, .int .i64 0, .string ⟨#[]⟩] 31)
      clear g1
      go_wp2_with fail
      refine (awake3_walk _).mono ?_
      rintro e w3 ⟨rfl, g3⟩
      go_wp2_with fail
      go_ret
      exact ⟨rfl, gtrans hal1 g3⟩
  · go_enter Try.func7, Try.ntmps7
    go_wp2_with fail
    refine (light_no s _ (by omega)).mono ?_
    rintro e w1 ⟨rfl, rfl⟩
    go_wp2_with fail
    refine (awake3_walk _).mono ?_
    rintro e w3 ⟨rfl, g3⟩
    go_wp2_with fail
    go_ret
    exact ⟨rfl, g3⟩
end Go.Proofs.Yteckddlcecleaaa
