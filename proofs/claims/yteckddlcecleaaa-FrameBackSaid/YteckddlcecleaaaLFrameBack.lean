/- The walk of the statement FrameBack of layer 3. -/
import Derived.Test.YteckddlcecleaaaLFrameTakes
namespace Go.Proofs.Yteckddlcecleaaa
open Go.RowKit Vm Cm Fm
set_option linter.unusedVariables false

set_option maxRecDepth 100000 in
set_option maxHeartbeats 2000000 in
theorem frameBack_law (b n : Int) (t m : ByteArray) (w : World) (hb0 : (Lit.int .i64 b).wf = true) (hn0 : (Lit.int .i64 n).wf = true) (ht : t.size ≤ maxLen) (hs : m.size ≤ 140737488351232) :
    Calls Try.prog 6 #[ev b n t, .string m] w fun e w' => e = .returned (.bool true) ∧ Below w.heap.size w w' := by
  have N0 := Lib.hid (Box3.start w (.int .i64 b) (.int .i64 n) (.string t) 31)
  have hbel : Below w.heap.size w (w.alloc (.cells #[.int .i64 b, .int .i64 n, .string t] 31)) := (Below.refl _ _).alloc (Nat.le_refl _) _
  by_cases hl : (t.size : Int) ≤ 100000
  · by_cases hl2 : (m.size : Int) ≤ 100000
    · by_cases hm : MayE b n t.data.toList
      · have hq1 := bytes_eq t
        have hq2 := bytes_eq m
        have H1 := Lib.hid (fun w => flay_yes b n t w hm)
        have hbd := body_len hm
        have hFl := frameL_len b n t.data.toList
        have hHl := headL_len (bodyL b n t.data.toList)
        have hpl := putL_len (i64_len (l := bodyL b n t.data.toList) (by omega))
        have hz : (str (frameL b n t.data.toList) ++ m).size ≤ 140737488355328 := by rw [ByteArray.size_append, str_size]; omega
        have hsum : ¬ (9223372036854775807 < (str (frameL b n t.data.toList)).size + m.size) := by rw [ByteArray.size_append] at hz; omega
        have H2 := fun w => ftake_yes (str (frameL b n t.data.toList) ++ m) b n t.data.toList m.data.toList w hz ⟨hm, by rw [str_append]⟩
        rw [str_data, str_data] at H2
        have H2' := Lib.hid H2
        clear hm hbd hFl hHl hpl hz H2
        generalize frameL b n t.data.toList = F at *
        go_enter Try.func6, Try.ntmps6
        go_wp2_with fail
        refine (light_yes t _ hl).mono ?_
        rintro e w1 ⟨rfl, rfl⟩
        go_wp2_with fail
        refine (light_yes m _ hl2).mono ?_
        rintro e w1 ⟨rfl, rfl⟩
        go_wp2_with fail
        refine (H1.out _).mono ?_
        rintro e w1 ⟨rfl, g1⟩
        have hb1 := hbel.trans (g1.mono hbel.size)
        have N1 := N0.out.keep g1
        clear g1 hbel N0
        go_wp2_with fail
        refine (H2'.out _).mono ?_
        rintro e w2 ⟨rfl, g2⟩
        have hb2 := hb1.trans (g2.mono hb1.size)
        have hal2 := hb2.alloc hb2.size (.cells #[.int .i64 b, .int .i64 n, .string t] 31)
        obtain ⟨c0, c1, c2, f0, f1, f2, lt⟩ := N1.keep g2
        clear g2 hb1 N1
        go_wp2_with fail
        refine (awake3_walk _).mono ?_
        rintro e w4 ⟨rfl, g4⟩
        go_wp2_with fail
        go_ret
        exact ⟨rfl, hal2.trans (g4.mono hal2.size)⟩
      · have hq := bytes_eq ⟨#[]⟩
        have H1 := Lib.hid (fun w => flay_no b n t w hm)
        clear hm
        go_enter Try.func6, Try.ntmps6
        go_wp2_with fail
        refine (light_yes t _ hl).mono ?_
        rintro e w1 ⟨rfl, rfl⟩
        go_wp2_with fail
        refine (light_yes m _ hl2).mono ?_
        rintro e w1 ⟨rfl, rfl⟩
        go_wp2_with fail
        refine (H1.out _).mono ?_
        rintro e w1 ⟨rfl, g1⟩
        have hb1 := hbel.trans (g1.mono hbel.size)
        clear g1 hbel N0
        go_wp2_with fail
        refine (awake3_walk _).mono ?_
        rintro e w4 ⟨rfl, g4⟩
        go_wp2_with fail
        go_ret
        exact ⟨rfl, hb1.trans (g4.mono hb1.size)⟩
    · go_enter Try.func6, Try.ntmps6
      go_wp2_with fail
      refine (light_yes t _ hl).mono ?_
      rintro e w1 ⟨rfl, rfl⟩
      go_wp2_with fail
      refine (light_no m _ (by omega)).mono ?_
      rintro e w1 ⟨rfl, rfl⟩
      go_wp2_with fail
      refine (awake3_walk _).mono ?_
      rintro e w4 ⟨rfl, g4⟩
      go_wp2_with fail
      go_ret
      exact ⟨rfl, hbel.trans (g4.mono hbel.size)⟩
  · go_enter Try.func6, Try.ntmps6
    go_wp2_with fail
    refine (light_no t _ (by omega)).mono ?_
    rintro e w1 ⟨rfl, rfl⟩
    go_wp2_with fail
    refine (awake3_walk _).mono ?_
    rintro e w4 ⟨rfl, g4⟩
    go_wp2_with fail
    go_ret
    exact ⟨rfl, hbel.trans (g4.mono hbel.size)⟩
end Go.Proofs.Yteckddlcecleaaa
