/- The walk of headgateref15.Add. -/
import Derived.Test.YtnjojbanbcahnaaRefFoldAddA
import Derived.Test.YtnjojbanbcahnaaRefFoldAddB
import Derived.Test.YtnjojbanbcahnaaRefFoldAddC
import Derived.Test.YtnjojbanbcahnaaRefFoldAddD
import Derived.Test.YtnjojbanbcahnaaRefFoldAddE
namespace Go.Proofs.Ytnjojbanbcahnaa
open Go.RowKit Vm Fo
set_option linter.unusedVariables false

theorem ref_add_walk (a : Ag) (v : Int) (w : World) (ha : AgWf a) (hv : I64 v) :
    Calls Try.prog 33 #[av a, .int .i64 v] w fun e w' => e = .returned (av (addA a v)) ∧ Below w.heap.size w w' := by
  obtain ⟨c, s, mi, ma, h0, h1, h2, h3, re, im⟩ := a
  by_cases hc : c = 0
  · exact RefFoldAdd.z _ _ _ _ _ _ _ _ _ _ _ w ha hv hc
  · by_cases h1 : v < mi
    · by_cases h2 : ma < v
      · exact RefFoldAdd.vv _ _ _ _ _ _ _ _ _ _ _ w ha hv hc h1 h2
      · exact RefFoldAdd.va _ _ _ _ _ _ _ _ _ _ _ w ha hv hc h1 h2
    · by_cases h2 : ma < v
      · exact RefFoldAdd.mv _ _ _ _ _ _ _ _ _ _ _ w ha hv hc h1 h2
      · exact RefFoldAdd.ma _ _ _ _ _ _ _ _ _ _ _ w ha hv hc h1 h2
end Go.Proofs.Ytnjojbanbcahnaa
