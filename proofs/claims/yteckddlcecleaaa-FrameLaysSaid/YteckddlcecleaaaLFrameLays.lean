/- The walk of the statement FrameLays of layer 3. -/
import Derived.Test.YteckddlcecleaaaLFrameTakes
namespace Go.Proofs.Yteckddlcecleaaa
open Go.RowKit Vm Cm Fm
set_option linter.unusedVariables false

set_option maxRecDepth 100000 in
set_option maxHeartbeats 2000000 in
theorem frameLays_law (b n : Int) (t : ByteArray) (w : World) (hb0 : (Lit.int .i64 b).wf = true) (hn0 : (Lit.int .i64 n).wf = true) (ht : t.size ≤ maxLen) :
    Calls Try.prog 4 #[ev b n t] w fun e w' => e = .returned (.bool true) ∧ Below w.heap.size w w' := by
  have N0 := Lib.hid (Box3.start w (.int .i64 b) (.int .i64 n) (.string t) 31)
  have hbel : Below w.heap.size w (w.alloc (.cells #[.int .i64 b, .int .i64 n, .string t] 31)) := (Below.refl _ _).alloc (Nat.le_refl _) _
  by_cases hl : (t.size : Int) ≤ 100000
  · by_cases hm : MayE b n t.data.toList
    · have HM := Lib.hid hm
      have hq := bytes_eq (str (frameL b n t.data.toList))
      have H1 := Lib.hid (fun w => flay_yes b n t w hm)
      have H2 := Lib.hid (fun w => ref_flay_yes b n t w hm)
      clear hm
      generalize frameL b n t.data.toList = F at *
      go_enter Try.func4, Try.ntmps4
      go_wp2_with fail
      refine (light_yes t _ hl).mono ?_
      rintro e w1 ⟨rfl, rfl⟩
      go_wp2_with fail
      refine (H1.out _).mono ?_
      rintro e w1 ⟨rfl, g1⟩
      have hb1 := hbel.trans (g1.mono hbel.size)
      have N1 := N0.out.keep g1
      have M1 := N1
      clear g1 hbel N0
      obtain ⟨c0, c1, c2, f0, f1, f2, lt⟩ := N1
      go_wp2_with fail
      refine (H2.out _).mono ?_
      rintro e w2 ⟨rfl, g2⟩
      have hb2 := hb1.trans (g2.mono hb1.size)
      clear c0 c1 c2 f0 f1 f2 lt
      have N2 := M1.keep g2
      clear g2 hb1 M1
      obtain ⟨c0, c1, c2, f0, f1, f2, lt⟩ := N2
      go_wp2_with fail
      refine (fcheck_yes b n t _ HM.out).mono ?_
      rintro e w3 ⟨rfl, g3⟩
      have hb3 := hb2.trans (g3.mono hb2.size)
      clear c0 c1 c2 f0 f1 f2 lt hb2 g3
      go_wp2_with fail
      refine (awake3_walk _).mono ?_
      rintro e w4 ⟨rfl, g4⟩
      go_wp2_with fail
      go_ret
      exact ⟨rfl, hb3.trans (g4.mono hb3.size)⟩
    · have HM := Lib.hid hm
      have hq := bytes_eq ⟨#[]⟩
      have H1 := Lib.hid (fun w => flay_no b n t w hm)
      have H2 := Lib.hid (fun w => ref_flay_no b n t w hm)
      clear hm
      go_enter Try.func4, Try.ntmps4
      go_wp2_with fail
      refine (light_yes t _ hl).mono ?_
      rintro e w1 ⟨rfl, rfl⟩
      go_wp2_with fail
      refine (H1.out _).mono ?_
      rintro e w1 ⟨rfl, g1⟩
      have hb1 := hbel.trans (g1.mono hbel.size)
      have N1 := N0.out.keep g1
      have M1 := N1
      clear g1 hbel N0
      obtain ⟨c0, c1, c2, f0, f1, f2, lt⟩ := N1
      go_wp2_with fail
      refine (H2.out _).mono ?_
      rintro e w2 ⟨rfl, g2⟩
      have hb2 := hb1.trans (g2.mono hb1.size)
      clear c0 c1 c2 f0 f1 f2 lt
      have N2 := M1.keep g2
      clear g2 hb1 M1
      obtain ⟨c0, c1, c2, f0, f1, f2, lt⟩ := N2
      go_wp2_with fail
      refine (fcheck_no b n t _ HM.out).mono ?_
      rintro e w3 ⟨rfl, g3⟩
      have hb3 := hb2.trans (g3.mono hb2.size)
      clear c0 c1 c2 f0 f1 f2 lt hb2 g3
      go_wp2_with fail
      refine (awake3_walk _).mono ?_
      rintro e w4 ⟨rfl, g4⟩
      go_wp2_with fail
      go_ret
      exact ⟨rfl, hb3.trans (g4.mono hb3.size)⟩
  · go_enter Try.func4, Try.ntmps4
    go_wp2_with fail
    refine (light_no t _ (by omega)).mono ?_
    rintro e w1 ⟨rfl, rfl⟩
    go_wp2_with fail
    refine (awake3_walk _).mono ?_
    rintro e w4 ⟨rfl, g4⟩
    go_wp2_with fail
    go_ret
    exact ⟨rfl, hbel.trans (g4.mono hbel.size)⟩
end Go.Proofs.Yteckddlcecleaaa
