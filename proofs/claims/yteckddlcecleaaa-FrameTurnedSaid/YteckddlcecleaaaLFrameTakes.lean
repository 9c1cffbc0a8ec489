/- The walk of the statement FrameTakes of layer 3. -/
import Derived.Test.YteckddlcecleaaaAwake3
namespace Go.Proofs.Yteckddlcecleaaa
open Go.RowKit Vm Cm Fm
set_option linter.unusedVariables false

theorem fr_or (s : List UInt8) : (∃ b n t r, Fr s b n t r) ∨ NoFr s := by
  rcases Classical.em (∃ b n t r, Fr s b n t r) with h | h
  · exact .inl h
  · exact .inr fun b n t r hf => h ⟨b, n, t, r, hf⟩

set_option maxRecDepth 100000 in
set_option maxHeartbeats 2000000 in
theorem frameTakes_law (s : ByteArray) (w : World) (hs : s.size ≤ 140737488351232) :
    Calls Try.prog 5 #[.string s] w fun e w' => e = .returned (.bool true) ∧ Below w.heap.size w w' := by
  have hs2 : s.size ≤ 140737488355328 := by omega
  by_cases hl : (s.size : Int) ≤ 100000
  · rcases fr_or s.data.toList with ⟨b, n, t, r, hf⟩ | hf
    · have H1 := Lib.hid (fun w => ftake_yes s b n t r w hs2 hf)
      have H2 := Lib.hid (fun w => ref_ftake_yes s b n t r w hs2 hf)
      have hq1 := bytes_eq (str t)
      have hq2 := bytes_eq (str r)
      clear hf
      go_enter Try.func5, Try.ntmps5
      go_wp2_with fail
      refine (light_yes s _ hl).mono ?_
      rintro e w1 ⟨rfl, rfl⟩
      go_wp2_with fail
      refine (H1.out _).mono ?_
      rintro e w1 ⟨rfl, g1⟩
      have N1 := Box3.start w1 (.int .i64 b) (.int .i64 n) (.string (str t)) 31
      have hal1 := g1.alloc g1.size (.cells #[.int .i64 b, .int .i64 n, .string (str t)] 31)
      clear g1
      go_wp2_with fail
      refine (H2.out _).mono ?_
      rintro e w2 ⟨rfl, g2⟩
      have hb2 := gtrans hal1 g2
      have hal2 := hb2.alloc hb2.size (.cells #[.int .i64 b, .int .i64 n, .string (str t)] 31)
      obtain ⟨c0, c1, c2, f0, f1, f2, lt⟩ := N1.keep g2
      clear g2 hal1 hb2 N1
      go_wp2_with fail
      refine (awake3_walk _).mono ?_
      rintro e w3 ⟨rfl, g3⟩
      go_wp2_with fail
      go_ret
      exact ⟨rfl, gtrans hal2 g3⟩
    · have H1 := Lib.hid (fun w => ftake_no s w hs2 hf)
      have H2 := Lib.hid (fun w => ref_ftake_no s w hs2 hf)
      have hq1 := bytes_eq ⟨#[]⟩
      clear hf
      go_enter Try.func5, Try.ntmps5
      go_wp2_with fail
      refine (light_yes s _ hl).mono ?_
      rintro e w1 ⟨rfl, rfl⟩
      go_wp2_with fail
      refine (H1.out _).mono ?_
      rintro e w1 ⟨rfl, g1⟩
      have N1 := Box3.start w1 (.int .i64 0) (.int .i64 0) (.string ⟨#[]⟩) 31
      have hal1 := g1.alloc g1.size (.cells #[.int .i64 0, .int .i64 0, .string ⟨#[]⟩] 31)
      clear g1
      go_wp2_with fail
      refine (H2.out _).mono ?_
      rintro e w2 ⟨rfl, g2⟩
      have hb2 := gtrans hal1 g2
      have hal2 := hb2.alloc hb2.size (.cells #[.int .i64 0, .int .i64 0, .string ⟨#[]⟩] 31)
      obtain ⟨c0, c1, c2, f0, f1, f2, lt⟩ := N1.keep g2
      clear g2 hal1 hb2 N1
      go_wp2_with fail
      refine (awake3_walk _).mono ?_
      rintro e w3 ⟨rfl, g3⟩
      go_wp2_with fail
      go_ret
      exact ⟨rfl, gtrans hal2 g3⟩
  · go_enter Try.func5, Try.ntmps5
    go_wp2_with fail
    refine (light_no s _ (by omega)).mono ?_
    rintro e w1 ⟨rfl, rfl⟩
    go_wp2_with fail
    refine (awake3_walk _).mono ?_
    rintro e w3 ⟨rfl, g3⟩
    go_wp2_with fail
    go_ret
    exact ⟨rfl, g3⟩
end Go.Proofs.Yteckddlcecleaaa
