/- The walk of the statement VarintBack of layer 1. -/
import Derived.Test.YtmllefbejnjljaaAwake1
import Derived.IntWalk
namespace Go.Proofs.Ytmllefbejnjljaa
open Go.RowKit Vm
set_option linter.unusedVariables false
set_option maxRecDepth 100000 in
set_option maxHeartbeats 2000000 in
theorem varintBack_law (n : Int) (more : ByteArray) (w : World) (hn0 : (Lit.int .i64 n).wf = true) (hm : more.size ≤ 140737488351232) :
    Calls Try.prog 5 #[.int .i64 n, .string more] w fun e w' => e = .returned (.bool true) ∧ Below w.heap.size w w' := by
  have hn := wf_i64 hn0
  have hq := bytes_eq more
  have hl : (str (putL n)).size ≤ 10 := by rw [str_size]; exact putL_len hn
  have ht := takeA_put hn (str (putL n) ++ more) _ (str_append _ _)
  have hsd := str_data more
  have hsz : (str (putL n) ++ more).size ≤ maxLen := by rw [ByteArray.size_append]; unfold maxLen; omega
  have HZ := Lib.hid hsz
  clear hn0 hsz
  go_enter Try.func5, Try.ntmps5
  go_wp2_with fail
  refine (put_walk _ _ hn).mono ?_
  rintro e w1 ⟨rfl, h1⟩
  go_wp2_with fail
  refine (take_walk _ _ HZ.out).mono ?_
  rintro e w2 ⟨rfl, h2⟩
  go_wp2_with fail
  refine (awake1_walk _).mono ?_
  rintro e w3 ⟨rfl, h3⟩
  go_wp2_with fail
  go_ret
  exact ⟨rfl, gtrans (gdrew h1 h2) h3⟩
end Go.Proofs.Ytmllefbejnjljaa
