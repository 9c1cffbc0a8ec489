/- The walk of the statement CrcSeals of layer 2. -/
import Derived.Test.YtiolpagilaabkaaUnseal
import Derived.Test.YtiolpagilaabkaaRefUnseal
namespace Go.Proofs.Ytiolpagilaabkaa
open Go.RowKit Vm Cm
set_option linter.unusedVariables false
set_option maxRecDepth 100000 in
set_option maxHeartbeats 4000000 in
theorem crcSeals_law (s : ByteArray) (w : World) (hs : s.size ≤ 140737488351232) :
    Calls Try.prog 5 #[.string s] w fun e w' => e = .returned (.bool true) ∧ Below w.heap.size w w' := by
  have hm : s.size ≤ maxLen := by unfold maxLen; omega
  have hm2 : s.size ≤ 140737488355328 := by omega
  by_cases h1 : 100000 < s.size
  · have h1' : (100000 : Int) < (s.size : Int) := by omega
    go_enter Try.func5, Try.ntmps5
    go_wp2_with fail
    refine (awake2_walk _).mono ?_
    rintro e w3 ⟨rfl, rfl⟩
    go_wp2_with fail
    go_ret
    exact ⟨rfl, Below.refl _ _⟩
  · have hq1 := bytes_eq (s ++ str (four (sum s.data.toList)))
    have hq2 := bytes_eq (str (unsealA s.data.toList).1)
    go_enter Try.func5, Try.ntmps5
    go_wp2_with fail
    refine (unseal_walk _ _ hm).mono ?_
    rintro e w1 ⟨rfl, g1⟩
    go_wp2_with fail
    refine (ref_unseal_walk _ _ hm).mono ?_
    rintro e w2 ⟨rfl, g2⟩
    go_wp2_with fail
    refine (seal_walk _ _ hm2).mono ?_
    rintro e w3 ⟨rfl, g3⟩
    go_wp2_with fail
    refine (ref_seal_walk _ _ hm2).mono ?_
    rintro e w4 ⟨rfl, g4⟩
    go_wp2_with fail
    refine (awake2_walk _).mono ?_
    rintro e w5 ⟨rfl, rfl⟩
    go_wp2_with fail
    go_ret
    exact ⟨rfl, gtrans (gtrans (gtrans g1 g2) g3) g4⟩
end Go.Proofs.Ytiolpagilaabkaa
