/- The walk of coop.New, as memory alone. -/
import Derived.Test.YtafibgekikjlhaaObj
import Derived.Test.YtafibgekikjlhaaRows
import Derived.Deep.OwnRows
import Derived.Deep.RegionLaw
import Derived.Deep.RegionHeld3
import Derived.Deep.Cut
import Derived.BigQuiet
namespace Go.Proofs.Ytafibgekikjlhaa
open Go.RowKit Vm
set_option linter.unusedVariables false
set_option linter.unusedSimpArgs false

theorem info_i64c : (Try.prog.info? 3).map (fun i => (i.zero, i.size, i.bytes)) = some (some (.int .i64 0), 1, 8) := by kernel_rfl
def twoW (w : World) (mc : Array Value) (i j : Nat) (parts : Nat) : World := ((w.alloc (.cells mc 3)).alloc (.cells mc 3)).alloc (.cells #[.int .i64 0, .slice none 0 0, .slice (some ⟨w.heap.size + i, 0, none⟩) parts parts, .slice (some ⟨w.heap.size + j, 0, none⟩) parts parts] 65)
set_option maxRecDepth 100000 in
set_option maxHeartbeats 4000000 in
theorem cnew_raw (parts : Nat) (w : World) (h1 : 1 ≤ parts) (h2 : parts ≤ 16) :
    Calls Try.prog 14 #[.int .i64 parts] w fun e w' => ∃ i j, ((i = 0 ∧ j = 1) ∨ (i = 1 ∧ j = 0)) ∧ e = .returned (.tuple #[.pointer (some ⟨w.heap.size + 2, 0, none⟩), .int .i64 0]) ∧ w' = (twoW w (madeCells #[.int .i64 0] parts) i j parts).drew := by
  have q1 : ¬ (parts : Int) < 1 := by omega
  have q2 : ¬ 16 < (parts : Int) := by omega
  have hm := fun w => run_make_row' (P := Try.prog) 22 3 (.int .i64 0) 8 Try.underlying22 info_i64c rfl .i64 .i64 parts (by omega) (by omega) w
  generalize madeCells #[.int .i64 0] parts = mc at *
  go_enter Try.func14, Try.ntmps14
  go_wp2_with fail
  go_region
  all_goals
    go_wp2_with fail
    go_ret2
    first
    | exact ⟨0, 1, .inl ⟨rfl, rfl⟩, rfl, rfl⟩
    | exact ⟨1, 0, .inr ⟨rfl, rfl⟩, rfl, rfl⟩
end Go.Proofs.Ytafibgekikjlhaa
