/- Rows of the type table that the walks of appends ask for. -/
import Derived.Test.YtafibgekikjlhaaRows
import Derived.WalkKit
namespace Go.Proofs.Ytafibgekikjlhaa
theorem info_u8 : (Try.prog.info? 5).map (fun i => (i.zero, i.size, i.bytes)) = some (some (.int .u8 0), 1, 1) := by kernel_rfl
theorem info_i64 : (Try.prog.info? 3).map (fun i => (i.zero, i.size, i.bytes)) = some (some (.int .i64 0), 1, 8) := by kernel_rfl
end Go.Proofs.Ytafibgekikjlhaa
