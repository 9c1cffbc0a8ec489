/- The walks of quota.number, quota.Check, cmp.Compare, quota.available, headgateref36.May. -/
import Derived.Test.YtbhbilmpkgcmeaaQuMath
import Derived.Test.YtbhbilmpkgcmeaaKit
import Derived.BigQuiet
namespace Go.Proofs.Ytbhbilmpkgcmeaa
open Go.RowKit Vm
set_option linter.unusedVariables false

set_option maxRecDepth 100000 in
theorem number_yes (n : Int) (w : World) (h1 : 0 ≤ n) (h2 : n ≤ 1099511627776) :
    Calls Try.prog 61 #[.int .i64 n] w fun e w' => e = .returned (.bool true) ∧ w = w' := by
  go_enter Try.func61, Try.ntmps61
  go_wp2
  go_ret
  exact ⟨rfl, rfl⟩
set_option maxRecDepth 100000 in
theorem number_no (n : Int) (w : World) (h : ¬ (0 ≤ n ∧ n ≤ 1099511627776)) :
    Calls Try.prog 61 #[.int .i64 n] w fun e w' => e = .returned (.bool false) ∧ w = w' := by
  by_cases h1 : 0 ≤ n
  · have h2 : ¬ n ≤ 1099511627776 := by omega
    clear h
    go_enter Try.func61, Try.ntmps61
    go_wp2
    go_ret
    exact ⟨rfl, rfl⟩
  · clear h
    go_enter Try.func61, Try.ntmps61
    go_wp2
    go_ret
    exact ⟨rfl, rfl⟩
set_option maxRecDepth 100000 in
set_option maxHeartbeats 1000000 in
theorem qcheck_yes (t m : Int) (w : World) (h : MayQ t m) :
    Calls Try.prog 40 #[.agg #[.int .i64 t, .int .i64 m]] w fun e w' => e = .returned (.int .i64 0) ∧ Below w.heap.size w w' := by
  obtain ⟨h1, h2, h3, h4⟩ := h
  have n1 : ¬ t < 1 := by omega
  have n2 : ¬ 1048576 < t := by omega
  have n3 : ¬ m < 1 := by omega
  have n4 : ¬ 1048576 < m := by omega
  have hal : Below w.heap.size w (w.alloc (.cells #[.int .i64 t, .int .i64 m] 60)) := balloc _ _
  go_enter Try.func40, Try.ntmps40
  go_wp2
  go_ret
  exact ⟨rfl, hal⟩
set_option maxRecDepth 100000 in
set_option maxHeartbeats 1000000 in
theorem qcheck_no (t m : Int) (w : World) (h : ¬ MayQ t m) :
    Calls Try.prog 40 #[.agg #[.int .i64 t, .int .i64 m]] w fun e w' => e = .returned (.int .i64 1) ∧ Below w.heap.size w w' := by
  unfold MayQ at h
  have hal : Below w.heap.size w (w.alloc (.cells #[.int .i64 t, .int .i64 m] 60)) := balloc _ _
  have hc : t < 1 ∨ (¬ t < 1 ∧ (1048576 < t ∨ (¬ 1048576 < t ∧ (m < 1 ∨ (¬ m < 1 ∧ 1048576 < m))))) := by omega
  clear h
  rcases hc with c1 | ⟨c1, c2 | ⟨c2, c3 | ⟨c3, c4⟩⟩⟩
  all_goals
    go_enter Try.func40, Try.ntmps40
    go_wp2
    go_ret
    exact ⟨rfl, hal⟩
set_option maxRecDepth 100000 in
set_option maxHeartbeats 1000000 in
theorem rmay36_yes (t m : Int) (w : World) (h : MayQ t m) :
    Calls Try.prog 41 #[.agg #[.int .i64 t, .int .i64 m]] w fun e w' => e = .returned (.bool true) ∧ Below w.heap.size w w' := by
  obtain ⟨h1, h2, h3, h4⟩ := h
  have hal : Below w.heap.size w (w.alloc (.cells #[.int .i64 t, .int .i64 m] 60)) := balloc _ _
  go_enter Try.func41, Try.ntmps41
  go_wp2
  go_ret
  exact ⟨rfl, hal⟩
set_option maxRecDepth 100000 in
set_option maxHeartbeats 1000000 in
theorem rmay36_no (t m : Int) (w : World) (h : ¬ MayQ t m) :
    Calls Try.prog 41 #[.agg #[.int .i64 t, .int .i64 m]] w fun e w' => e = .returned (.bool false) ∧ Below w.heap.size w w' := by
  unfold MayQ at h
  have hal : Below w.heap.size w (w.alloc (.cells #[.int .i64 t, .int .i64 m] 60)) := balloc _ _
  have hc : ¬ 1 ≤ t ∨ (1 ≤ t ∧ (¬ t ≤ 1048576 ∨ (t ≤ 1048576 ∧ (¬ 1 ≤ m ∨ (1 ≤ m ∧ ¬ m ≤ 1048576))))) := by omega
  clear h
  rcases hc with c1 | ⟨c1, c2 | ⟨c2, c3 | ⟨c3, c4⟩⟩⟩
  all_goals
    go_enter Try.func41, Try.ntmps41
    go_wp2
    go_ret
    exact ⟨rfl, hal⟩
end Go.Proofs.Ytbhbilmpkgcmeaa
