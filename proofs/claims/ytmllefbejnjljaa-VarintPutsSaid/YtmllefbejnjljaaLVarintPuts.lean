/- The walk of the statement VarintPuts of layer 1. -/
import Derived.Test.YtmllefbejnjljaaAwake1
namespace Go.Proofs.Ytmllefbejnjljaa
open Go.RowKit Vm
set_option linter.unusedVariables false
set_option maxRecDepth 100000 in
set_option maxHeartbeats 2000000 in
theorem varintPuts_law (n : Int) (w : World) (hn0 : (Lit.int .i64 n).wf = true) :
    Calls Try.prog 3 #[.int .i64 n] w fun e w' => e = .returned (.bool true) ∧ Below w.heap.size w w' := by
  have hn := wf_i64 hn0
  have hq := bytes_eq (str (putL n))
  clear hn0
  go_enter Try.func3, Try.ntmps3
  go_wp2_with fail
  refine (put_walk _ _ hn).mono ?_
  rintro e w1 ⟨rfl, h1⟩
  go_wp2_with fail
  refine (ref_put_walk _ _ hn).mono ?_
  rintro e w2 ⟨rfl, h2⟩
  go_wp2_with fail
  refine (awake1_walk _).mono ?_
  rintro e w3 ⟨rfl, h3⟩
  go_wp2_with fail
  go_ret
  exact ⟨rfl, gtrans (gtrans h1 h2) h3⟩
end Go.Proofs.Ytmllefbejnjljaa
