/- The walk of headgateref15.Add. -/
import Derived.Test.YtnjojbanbcahnaaRefFoldSmall
import Derived.Test.YtnjojbanbcahnaaFoldAdd
namespace Go.Proofs.Ytnjojbanbcahnaa
open Go.RowKit Vm Fo
set_option linter.unusedVariables false

namespace RefFoldAdd
theorem wrapq {v : Int} (hv : I64 v) : ∃ r : Nat, v % 4 = (r : Int) ∧ r < 4 ∧ (v.tmod 4 + 4).tmod 4 = (r : Int) ∧ 1 ≤ v.tmod 4 + 4 ∧ v.tmod 4 + 4 ≤ 7 ∧ (v.tmod 4 + 4) % 4 = (r : Int) := by
  have h1 : -4 < v.tmod 4 := Int.lt_tmod_of_pos v (by omega)
  have h2 : v.tmod 4 < 4 := Int.tmod_lt_of_pos v (by omega)
  have h3 : v.tmod 4 + 4 * v.tdiv 4 = v := Int.tmod_add_mul_tdiv v 4
  have h4 : (v.tmod 4 + 4) % 4 = v % 4 := by omega
  have h5 : (v.tmod 4 + 4).tmod 4 = (v.tmod 4 + 4) % 4 := Int.tmod_eq_emod_of_nonneg (by omega)
  refine ⟨(v % 4).toNat, by omega, by omega, by omega, by omega, by omega, by omega⟩


end RefFoldAdd
end Go.Proofs.Ytnjojbanbcahnaa
