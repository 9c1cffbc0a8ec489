/- The walk of the statement VarintTakes of layer 1. -/
import Derived.Test.YtmllefbejnjljaaAwake1
namespace Go.Proofs.Ytmllefbejnjljaa
open Go.RowKit Vm
set_option linter.unusedVariables false
set_option maxRecDepth 100000 in
set_option maxHeartbeats 2000000 in
theorem varintTakes_law (s : ByteArray) (w : World) (hs : s.size ≤ 140737488351232) :
    Calls Try.prog 4 #[.string s] w fun e w' => e = .returned (.bool true) ∧ Below w.heap.size w w' := by
  have hs' : s.size ≤ maxLen := by unfold maxLen; omega
  have hq := bytes_eq (str (takeA s).2.1)
  go_enter Try.func4, Try.ntmps4
  go_wp2_with fail
  refine (take_walk _ _ hs').mono ?_
  rintro e w1 ⟨rfl, h1⟩
  go_wp2_with fail
  refine (ref_take_walk _ _ hs').mono ?_
  rintro e w2 ⟨rfl, h2⟩
  go_wp2_with fail
  refine (awake1_walk _).mono ?_
  rintro e w3 ⟨rfl, h3⟩
  go_wp2_with fail
  go_ret
  exact ⟨rfl, gtrans (gtrans (h1.below _) h2) h3⟩
end Go.Proofs.Ytmllefbejnjljaa
