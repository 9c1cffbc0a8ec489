/- The walk of the statement SketchOf of layer 29. -/
import Derived.Test.YtnjojbanbcahnabRefSk
namespace Go.Proofs.Ytnjojbanbcahnab
open Go.RowKit Vm Sk
set_option linter.unusedVariables false

set_option maxRecDepth 100000 in
set_option maxHeartbeats 4000000 in
theorem sketchOf_law (v b : Int) (w : World) (hv0 : (Lit.int .i64 v).wf = true) (hb0 : (Lit.int .i64 b).wf = true) :
    Calls Try.prog 8 #[.int .i64 v, .int .i64 b] w fun e w' => e = .returned (.bool true) ∧ Below w.heap.size w w' := by
  have hv := wf_i64 hv0
  have hb := wf_i64 hb0
  have H1 := Lib.hid (fun w => of_walk v w hv)
  have H2 := Lib.hid (fun w => ref_of_walk v w hv)
  have H3 := fun w => ends_walk b w hb
  have H4 := fun w => ref_ends_walk b w hb
  obtain ⟨x, y, z, hxyz⟩ : ∃ x y z : Int, (if -960 ≤ b ∧ b < 960 then #[Value.int .i64 (lowI b), .int .i64 (highI b), .int .i64 0] else #[.int .i64 0, .int .i64 0, .int .i64 1]) = #[.int .i64 x, .int .i64 y, .int .i64 z] := by
    by_cases h : -960 ≤ b ∧ b < 960
    · rw [if_pos h]; exact ⟨_, _, _, rfl⟩
    · rw [if_neg h]; exact ⟨_, _, _, rfl⟩
  rw [hxyz] at H3 H4
  have H3' := Lib.hid H3
  have H4' := Lib.hid H4
  clear hxyz H3 H4 hv0 hb0
  generalize ofI v = q at *
  have q1 : (q == q) = true := by simp
  have q2 : (x == x) = true := by simp
  have q3 : (y == y) = true := by simp
  have q4 : (z == z) = true := by simp
  go_enter Try.func8, Try.ntmps8
  go_wp2_with fail
  refine (H3'.out _).mono ?_
  rintro e w1 ⟨rfl, d1⟩
  go_wp2_with fail
  refine (H4'.out _).mono ?_
  rintro e w2 ⟨rfl, d2⟩
  go_wp2_with fail
  refine (H1.out _).mono ?_
  rintro e w3 ⟨rfl, rfl⟩
  go_wp2_with fail
  refine (H2.out _).mono ?_
  rintro e w3 ⟨rfl, rfl⟩
  go_wp2_with fail
  refine (awake29_walk _).mono ?_
  rintro e w3 ⟨rfl, d3⟩
  go_wp2_with fail
  go_ret
  exact ⟨rfl, ((d1.trans d2).trans d3).below _⟩
end Go.Proofs.Ytnjojbanbcahnab
