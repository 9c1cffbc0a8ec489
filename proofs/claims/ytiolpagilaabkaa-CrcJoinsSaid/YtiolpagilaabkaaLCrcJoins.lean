/- The walk of the statement CrcJoins of layer 2. -/
import Derived.Test.YtiolpagilaabkaaUnseal
import Derived.Test.YtiolpagilaabkaaRefUnseal
namespace Go.Proofs.Ytiolpagilaabkaa
open Go.RowKit Vm Cm
set_option linter.unusedVariables false
set_option maxRecDepth 100000 in
set_option maxHeartbeats 4000000 in
theorem crcJoins_law (a b : ByteArray) (w : World) (ha : a.size ≤ 140737488351232) (hb : b.size ≤ 140737488351232) :
    Calls Try.prog 4 #[.string a, .string b] w fun e w' => e = .returned (.bool true) ∧ Below w.heap.size w w' := by
  have hma : a.size ≤ maxLen := by unfold maxLen; omega
  have hmb : b.size ≤ maxLen := by unfold maxLen; omega
  by_cases h1 : 100000 < a.size
  · have h1' : (100000 : Int) < (a.size : Int) := by omega
    go_enter Try.func4, Try.ntmps4
    go_wp2_with fail
    refine (awake2_walk _).mono ?_
    rintro e w3 ⟨rfl, rfl⟩
    go_wp2_with fail
    go_ret
    exact ⟨rfl, Below.refl _ _⟩
  · by_cases h2 : 100000 < b.size
    · have h1' : (100000 : Int) < (b.size : Int) := by omega
      go_enter Try.func4, Try.ntmps4
      go_wp2_with fail
      refine (awake2_walk _).mono ?_
      rintro e w3 ⟨rfl, rfl⟩
      go_wp2_with fail
      go_ret
      exact ⟨rfl, Below.refl _ _⟩
    · have hab : (a ++ b).size ≤ maxLen := by rw [ByteArray.size_append]; unfold maxLen; omega
      have hj : more (sum a.data.toList) b.data.toList = sum (a ++ b).data.toList := by
        rw [ByteArray.data_append, Array.toList_append]; exact more_append 0 _ _
      have hj0 : more (sum a.data.toList) [] = sum a.data.toList := more_nil (sum_lt _)
      have HAB := Lib.hid hab
      have h0 : (⟨#[]⟩ : ByteArray).size ≤ maxLen := by unfold maxLen; decide
      have H0 := Lib.hid h0
      clear hab h0
      go_enter Try.func4, Try.ntmps4
      go_wp2_with fail
      refine (sum_walk _ _ hma).mono ?_
      rintro e w1 ⟨rfl, rfl⟩
      go_wp2_with fail
      refine (more_walk _ _ _ (sum_lt _) hmb).mono ?_
      rintro e w1 ⟨rfl, rfl⟩
      go_wp2_with fail
      refine (sum_walk _ _ HAB.out).mono ?_
      rintro e w1 ⟨rfl, rfl⟩
      go_wp2_with fail
      refine (sum_walk _ _ hma).mono ?_
      rintro e w1 ⟨rfl, rfl⟩
      go_wp2_with fail
      refine (more_walk _ _ _ (sum_lt _) H0.out).mono ?_
      rintro e w1 ⟨rfl, rfl⟩
      go_wp2_with fail
      refine (sum_walk _ _ hma).mono ?_
      rintro e w1 ⟨rfl, rfl⟩
      go_wp2_with fail
      refine (awake2_walk _).mono ?_
      rintro e w1 ⟨rfl, rfl⟩
      go_wp2_with fail
      go_ret
      exact ⟨rfl, Below.refl _ _⟩
end Go.Proofs.Ytiolpagilaabkaa
