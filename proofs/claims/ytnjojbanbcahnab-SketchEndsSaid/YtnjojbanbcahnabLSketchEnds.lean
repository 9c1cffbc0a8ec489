/- The walk of the statement SketchEnds of layer 29. -/
import Derived.Test.YtnjojbanbcahnabSkEnds
namespace Go.Proofs.Ytnjojbanbcahnab
open Go.RowKit Vm Sk
set_option linter.unusedVariables false

set_option maxRecDepth 100000 in
set_option maxHeartbeats 4000000 in
theorem sketchEnds_law (v u : Int) (w : World) (hv0 : (Lit.int .i64 v).wf = true) (hu0 : (Lit.int .i64 u).wf = true) :
    Calls Try.prog 9 #[.int .i64 v, .int .i64 u] w fun e w' => e = .returned (.bool true) ∧ Below w.heap.size w w' := by
  have hv := wf_i64 hv0
  have hu := wf_i64 hu0
  obtain ⟨t1, t2, t3, t4, t5, t6, t7, t8, t9⟩ := tells hv
  have hm : v ≤ u → ofI v ≤ ofI u := ofI_mono
  have H1 := Lib.hid (fun w => of_walk v w hv)
  have H2 := Lib.hid (fun w => of_walk u w hu)
  have hb : I64 (ofI v) := by unfold bucketI at t1; unfold I64; omega
  have H3 := fun w => ends_walk (ofI v) w hb
  have e3 : (if -960 ≤ ofI v ∧ ofI v < 960 then #[Value.int .i64 (lowI (ofI v)), .int .i64 (highI (ofI v)), .int .i64 0] else #[.int .i64 0, .int .i64 0, .int .i64 1]) = #[.int .i64 (lowI (ofI v)), .int .i64 (highI (ofI v)), .int .i64 0] := by
    rw [if_pos]; exact t1
  rw [e3] at H3
  have H3' := Lib.hid H3
  have H4 := fun w => of_walk (lowI (ofI v)) w t8
  have H5 := fun w => of_walk (highI (ofI v)) w t9
  rw [t4] at H4
  rw [t5] at H5
  have H4' := Lib.hid H4
  have H5' := Lib.hid H5
  clear e3 H3 H4 H5 t4 t5 hv0 hu0 hb t1
  generalize lowI (ofI v) = lo at *
  generalize highI (ofI v) = hi at *
  generalize ofI v = b at *
  generalize ofI u = q at *
  have hq : (b == b) = true := by simp
  have hqn : (b != b) = false := by simp
  unfold I64 at t8 t9 hv hu
  have a1 : ¬ v < lo := by omega
  have a2 : ¬ hi < v := by omega
  have hm2 : v ≤ u → b ≤ q := hm
  have HM := Lib.hid hm2
  clear hm hm2
  have hcase : (0 ≤ lo ∧ hi - lo ≤ lo / 16) ∨ (lo < 0 ∧ hi < 0 ∧ hi - lo ≤ (-1 - hi) / 16) := by omega
  clear t6 t7
  rcases hcase with ⟨g1, g2⟩ | ⟨g1, g2, g3⟩
  all_goals
    by_cases hvu : u < v
    · go_enter Try.func9, Try.ntmps9
      go_wp2_with fail
      refine (H1.out _).mono ?_
      rintro e w1 ⟨rfl, rfl⟩
      go_wp2_with fail
      refine (H3'.out _).mono ?_
      rintro e w1 ⟨rfl, d1⟩
      go_wp2_with fail
      refine (H4'.out _).mono ?_
      rintro e w2 ⟨rfl, rfl⟩
      go_wp2_with fail
      refine (H5'.out _).mono ?_
      rintro e w2 ⟨rfl, rfl⟩
      go_wp2_with fail
      refine (awake29_walk _).mono ?_
      rintro e w2 ⟨rfl, d2⟩
      go_wp2_with fail
      go_ret
      exact ⟨rfl, (d1.trans d2).below _⟩
    · have hbq := HM.out (by omega)
      go_enter Try.func9, Try.ntmps9
      go_wp2_with fail
      refine (H1.out _).mono ?_
      rintro e w1 ⟨rfl, rfl⟩
      go_wp2_with fail
      refine (H3'.out _).mono ?_
      rintro e w1 ⟨rfl, d1⟩
      go_wp2_with fail
      refine (H4'.out _).mono ?_
      rintro e w2 ⟨rfl, rfl⟩
      go_wp2_with fail
      refine (H5'.out _).mono ?_
      rintro e w2 ⟨rfl, rfl⟩
      go_wp2_with fail
      refine (H1.out _).mono ?_
      rintro e w2 ⟨rfl, rfl⟩
      go_wp2_with fail
      refine (H2.out _).mono ?_
      rintro e w2 ⟨rfl, rfl⟩
      go_wp2_with fail
      refine (awake29_walk _).mono ?_
      rintro e w2 ⟨rfl, d2⟩
      go_wp2_with fail
      go_ret
      exact ⟨rfl, (d1.trans d2).below _⟩
end Go.Proofs.Ytnjojbanbcahnab
