/- The walk of coop.give, as memory alone. -/
import Derived.Test.YtafibgekikjlhaaObj
import Derived.Test.YtafibgekikjlhaaRows
import Derived.Deep.OwnRows
import Derived.Deep.RegionLaw
import Derived.Deep.RegionHeld3
import Derived.Deep.Cut
import Derived.BigQuiet
namespace Go.Proofs.Ytafibgekikjlhaa
open Go.RowKit Vm
set_option linter.unusedVariables false
set_option linter.unusedSimpArgs false

set_option maxRecDepth 100000 in
set_option maxHeartbeats 4000000 in
theorem give_raw (p P g gb gd cb cd : Nat) (v : Int) (w : World) (hp : p < P) (m2 : w.cell? ⟨g, 2, none⟩ = some (.slice (some ⟨gb, 0, none⟩) P cb)) (m3 : w.cell? ⟨g, 3, none⟩ = some (.slice (some ⟨gd, 0, none⟩) P cd))
    (r0 : w.cell? ⟨gb, p, none⟩ = some (.int .i64 0)) (f0 : w.frozen? ⟨gb, p, none⟩ = false) (s0 : w.cell? ⟨gd, p, none⟩ = some (.int .i64 v)) :
    Calls Try.prog 48 #[.pointer (some ⟨g, 0, none⟩), .int .i64 p] w fun e w' => e = .returned (.tuple #[]) ∧ w' = (w.drew).setCell ⟨gb, p, none⟩ (.int .i64 v) := by
  have hp2 : (p : Int) < (P : Int) := by omega
  have hp0 : 0 ≤ (p : Int) := by omega
  go_enter Try.func48, Try.ntmps48
  go_wp2_with fail
  go_region
  all_goals
    go_end0
    exact ⟨by first | rfl | trivial, rfl⟩
set_option maxRecDepth 100000 in
set_option maxHeartbeats 4000000 in
theorem give_raw2 (p P g gb cb : Nat) (v : Int) (w : World) (hp : p < P) (m2 : w.cell? ⟨g, 2, none⟩ = some (.slice (some ⟨gb, 0, none⟩) P cb)) (hv : ¬ v = 0)
    (r0 : w.cell? ⟨gb, p, none⟩ = some (.int .i64 v))  :
    Calls Try.prog 48 #[.pointer (some ⟨g, 0, none⟩), .int .i64 p] w fun e w' => e = .returned (.tuple #[]) ∧ w' = w := by
  have hp2 : (p : Int) < (P : Int) := by omega
  have hp0 : 0 ≤ (p : Int) := by omega
  have hb : (v == 0) = false := by simpa using hv
  go_enter Try.func48, Try.ntmps48
  go_wp2_with fail
  go_end0
  exact ⟨by first | rfl | trivial, rfl⟩
end Go.Proofs.Ytafibgekikjlhaa
