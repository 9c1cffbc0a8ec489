/- The walk of the statement LzRoom of layer 32. -/
import Derived.Test.YtnhchmbbhkgccaaLzAwake
namespace Go.Proofs.Ytnhchmbbhkgccaa
open Go.RowKit Vm Lz
set_option linter.unusedVariables false
set_option linter.unusedSimpArgs false

set_option maxRecDepth 100000 in
set_option maxHeartbeats 8000000 in
theorem lzRoom_law (s : ByteArray) (m : Int) (w : World) (hs : s.size ≤ 140737488351232) (hm : (Lit.int .i64 m).wf = true) :
    Calls Try.prog 7 #[.string s, .int .i64 m] w fun e w' => e = .returned (.bool true) ∧ Below w.heap.size w w' := by
  have hes : 2000 < s.size → (s.extract 0 2000).size ≤ maxLen := fun h => by rw [extract_size s 2000 (by omega)]; unfold maxLen; omega
  have hsm : s.size ≤ maxLen := by unfold maxLen; omega
  by_cases h1 : s.size ≤ 2000
  · have h1i : (s.size : Int) ≤ 2000 := by omega
    by_cases h2 : m < 0
    · have K := Lib.hid (fun w => unpack_bad (s) m w (.inl h2))
      go_enter Try.func7, Try.ntmps7
      go_wp2_with fail
      refine (K.out _).mono ?_
      rintro e w1 ⟨rfl, b1⟩
      have e1 : str [] = { data := #[] } := rfl
      rw [e1]
      go_wp2_with fail
      refine (awake32_walk _).mono ?_
      rintro e w9 ⟨rfl, b9⟩
      go_wp2_with fail
      go_ret
      exact ⟨rfl, gtrans b1 b9⟩
    · by_cases h3 : 1048576 < m
      · have K := Lib.hid (fun w => unpack_bad (s) m w (.inr h3))
        go_enter Try.func7, Try.ntmps7
        go_wp2_with fail
        refine (K.out _).mono ?_
        rintro e w1 ⟨rfl, b1⟩
        have e1 : str [] = { data := #[] } := rfl
        rw [e1]
        go_wp2_with fail
        refine (awake32_walk _).mono ?_
        rintro e w9 ⟨rfl, b9⟩
        go_wp2_with fail
        go_ret
        exact ⟨rfl, gtrans b1 b9⟩
      · obtain ⟨M, rfl⟩ : ∃ M : Nat, m = (M : Int) := ⟨m.toNat, by omega⟩
        have K := fun w => unpack_walk (s) M w (by omega) hsm
        have h4 : (M : Int) ≤ 1048576 := by omega
        cases hu : un M [] (s).data.toList with
        | none =>
          rw [hu] at K
          unfold unV at K
          have K := Lib.hid K
          clear hu
          go_enter Try.func7, Try.ntmps7
          go_wp2_with fail
          refine (K.out _).mono ?_
          rintro e w1 ⟨rfl, b1⟩
          have e1 : str [] = { data := #[] } := rfl
          have e2 : (0 : Int) ≤ (M : Int) := by omega
          rw [e1]
          go_wp2_with fail
          refine (awake32_walk _).mono ?_
          rintro e w9 ⟨rfl, b9⟩
          go_wp2_with fail
          go_ret
          exact ⟨rfl, gtrans b1 b9⟩
        | some x =>
          have hx := (U_of_un _ (Nat.le_refl _) hu).2 (Nat.zero_le _)
          have hxs : ((str x).size : Int) ≤ (M : Int) := by rw [str_size]; omega
          rw [hu] at K
          unfold unV at K
          have K := Lib.hid K
          clear hu hx
          go_enter Try.func7, Try.ntmps7
          go_wp2_with fail
          refine (K.out _).mono ?_
          rintro e w1 ⟨rfl, b1⟩
          go_wp2_with fail
          refine (awake32_walk _).mono ?_
          rintro e w9 ⟨rfl, b9⟩
          go_wp2_with fail
          go_ret
          exact ⟨rfl, gtrans b1 b9⟩
  · have h1i : ¬ (s.size : Int) ≤ 2000 := by omega
    have h1j : (2000 : Int) ≤ (s.size : Int) := by omega
    by_cases h2 : m < 0
    · have K := Lib.hid (fun w => unpack_bad (s.extract 0 2000) m w (.inl h2))
      go_enter Try.func7, Try.ntmps7
      go_wp2_with fail
      refine (K.out _).mono ?_
      rintro e w1 ⟨rfl, b1⟩
      have e1 : str [] = { data := #[] } := rfl
      rw [e1]
      go_wp2_with fail
      refine (awake32_walk _).mono ?_
      rintro e w9 ⟨rfl, b9⟩
      go_wp2_with fail
      go_ret
      exact ⟨rfl, gtrans b1 b9⟩
    · by_cases h3 : 1048576 < m
      · have K := Lib.hid (fun w => unpack_bad (s.extract 0 2000) m w (.inr h3))
        go_enter Try.func7, Try.ntmps7
        go_wp2_with fail
        refine (K.out _).mono ?_
        rintro e w1 ⟨rfl, b1⟩
        have e1 : str [] = { data := #[] } := rfl
        rw [e1]
        go_wp2_with fail
        refine (awake32_walk _).mono ?_
        rintro e w9 ⟨rfl, b9⟩
        go_wp2_with fail
        go_ret
        exact ⟨rfl, gtrans b1 b9⟩
      · obtain ⟨M, rfl⟩ : ∃ M : Nat, m = (M : Int) := ⟨m.toNat, by omega⟩
        have K := fun w => unpack_walk (s.extract 0 2000) M w (by omega) (hes (by omega))
        have h4 : (M : Int) ≤ 1048576 := by omega
        cases hu : un M [] (s.extract 0 2000).data.toList with
        | none =>
          rw [hu] at K
          unfold unV at K
          have K := Lib.hid K
          clear hu
          go_enter Try.func7, Try.ntmps7
          go_wp2_with fail
          refine (K.out _).mono ?_
          rintro e w1 ⟨rfl, b1⟩
          have e1 : str [] = { data := #[] } := rfl
          have e2 : (0 : Int) ≤ (M : Int) := by omega
          rw [e1]
          go_wp2_with fail
          refine (awake32_walk _).mono ?_
          rintro e w9 ⟨rfl, b9⟩
          go_wp2_with fail
          go_ret
          exact ⟨rfl, gtrans b1 b9⟩
        | some x =>
          have hx := (U_of_un _ (Nat.le_refl _) hu).2 (Nat.zero_le _)
          have hxs : ((str x).size : Int) ≤ (M : Int) := by rw [str_size]; omega
          rw [hu] at K
          unfold unV at K
          have K := Lib.hid K
          clear hu hx
          go_enter Try.func7, Try.ntmps7
          go_wp2_with fail
          refine (K.out _).mono ?_
          rintro e w1 ⟨rfl, b1⟩
          go_wp2_with fail
          refine (awake32_walk _).mono ?_
          rintro e w9 ⟨rfl, b9⟩
          go_wp2_with fail
          go_ret
          exact ⟨rfl, gtrans b1 b9⟩
end Go.Proofs.Ytnhchmbbhkgccaa
