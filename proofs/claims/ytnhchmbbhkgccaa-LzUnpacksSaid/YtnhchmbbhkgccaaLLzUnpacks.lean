/- The walk of the statement LzUnpacks of layer 32. -/
import Derived.Test.YtnhchmbbhkgccaaLzAwake
namespace Go.Proofs.Ytnhchmbbhkgccaa
open Go.RowKit Vm Lz
set_option linter.unusedVariables false
set_option linter.unusedSimpArgs false

set_option maxRecDepth 100000 in
set_option maxHeartbeats 8000000 in
theorem both_un (s : ByteArray) (m : Int) (hs : s.size ≤ maxLen) : ∃ (x : ByteArray) (E : Int), (∀ w, Calls Try.prog 9 #[.string s, .int .i64 m] w fun e w' => e = .returned (.tuple #[.string x, .int .i64 E]) ∧ Below w.heap.size w w') ∧
    (∀ w, Calls Try.prog 10 #[.string s, .int .i64 m] w fun e w' => e = .returned (.tuple #[.string x, .int .i64 E]) ∧ Below w.heap.size w w') := by
  by_cases h : m < 0 ∨ 1048576 < m
  · exact ⟨_, _, fun w => unpack_bad s m w h, fun w => runpack_bad s m w h⟩
  · obtain ⟨M, rfl⟩ : ∃ M : Nat, m = (M : Int) := ⟨m.toNat, by omega⟩
    have k1 := fun w => unpack_walk s M w (by omega) hs
    have k2 := fun w => runpack_walk s M w (by omega) hs
    cases hu : un M [] s.data.toList with
    | none => rw [hu] at k1 k2; exact ⟨_, _, k1, k2⟩
    | some x => rw [hu] at k1 k2; exact ⟨_, _, k1, k2⟩
set_option maxRecDepth 100000 in
set_option maxHeartbeats 8000000 in
theorem lzUnpacks_law (s : ByteArray) (m : Int) (w : World) (hs : s.size ≤ 140737488351232) (hm : (Lit.int .i64 m).wf = true) :
    Calls Try.prog 3 #[.string s, .int .i64 m] w fun e w' => e = .returned (.bool true) ∧ Below w.heap.size w w' := by
  have hes : 300 < s.size → (s.extract 0 300).size ≤ maxLen := fun h => by rw [extract_size s 300 (by omega)]; unfold maxLen; omega
  have hsm : s.size ≤ maxLen := by unfold maxLen; omega
  by_cases h1 : s.size ≤ 300
  · have h1i : (s.size : Int) ≤ 300 := by omega
    by_cases h2 : m ≤ 3000
    · obtain ⟨x, E, ka, kb⟩ := both_un (s) m hsm
      have KA := Lib.hid ka
      have KB := Lib.hid kb
      clear ka kb hes
      go_enter Try.func3, Try.ntmps3
      go_wp2_with fail
      refine (KA.out _).mono ?_
      rintro e w1 ⟨rfl, b1⟩
      go_wp2_with fail
      refine (KB.out _).mono ?_
      rintro e w2 ⟨rfl, b2⟩
      have b3 := gtrans b1 b2
      go_wp2_with fail
      refine (awake32_walk _).mono ?_
      rintro e w9 ⟨rfl, b9⟩
      go_wp2_with fail
      go_ret
      exact ⟨rfl, gtrans b3 b9⟩
    · by_cases h3 : m ≤ 1048576
      · obtain ⟨x, E, ka, kb⟩ := both_un (s) 3000 hsm
        have KA := Lib.hid ka
        have KB := Lib.hid kb
        clear ka kb hes
        go_enter Try.func3, Try.ntmps3
        go_wp2_with fail
        refine (KA.out _).mono ?_
        rintro e w1 ⟨rfl, b1⟩
        go_wp2_with fail
        refine (KB.out _).mono ?_
        rintro e w2 ⟨rfl, b2⟩
        have b3 := gtrans b1 b2
        go_wp2_with fail
        refine (awake32_walk _).mono ?_
        rintro e w9 ⟨rfl, b9⟩
        go_wp2_with fail
        go_ret
        exact ⟨rfl, gtrans b3 b9⟩
      · obtain ⟨x, E, ka, kb⟩ := both_un (s) m hsm
        have KA := Lib.hid ka
        have KB := Lib.hid kb
        clear ka kb hes
        go_enter Try.func3, Try.ntmps3
        go_wp2_with fail
        refine (KA.out _).mono ?_
        rintro e w1 ⟨rfl, b1⟩
        go_wp2_with fail
        refine (KB.out _).mono ?_
        rintro e w2 ⟨rfl, b2⟩
        have b3 := gtrans b1 b2
        go_wp2_with fail
        refine (awake32_walk _).mono ?_
        rintro e w9 ⟨rfl, b9⟩
        go_wp2_with fail
        go_ret
        exact ⟨rfl, gtrans b3 b9⟩
  · have h1i : ¬ (s.size : Int) ≤ 300 := by omega
    have h1j : (300 : Int) ≤ (s.size : Int) := by omega
    by_cases h2 : m ≤ 3000
    · obtain ⟨x, E, ka, kb⟩ := both_un (s.extract 0 300) m (hes (by omega))
      have KA := Lib.hid ka
      have KB := Lib.hid kb
      clear ka kb hes
      go_enter Try.func3, Try.ntmps3
      go_wp2_with fail
      refine (KA.out _).mono ?_
      rintro e w1 ⟨rfl, b1⟩
      go_wp2_with fail
      refine (KB.out _).mono ?_
      rintro e w2 ⟨rfl, b2⟩
      have b3 := gtrans b1 b2
      go_wp2_with fail
      refine (awake32_walk _).mono ?_
      rintro e w9 ⟨rfl, b9⟩
      go_wp2_with fail
      go_ret
      exact ⟨rfl, gtrans b3 b9⟩
    · by_cases h3 : m ≤ 1048576
      · obtain ⟨x, E, ka, kb⟩ := both_un (s.extract 0 300) 3000 (hes (by omega))
        have KA := Lib.hid ka
        have KB := Lib.hid kb
        clear ka kb hes
        go_enter Try.func3, Try.ntmps3
        go_wp2_with fail
        refine (KA.out _).mono ?_
        rintro e w1 ⟨rfl, b1⟩
        go_wp2_with fail
        refine (KB.out _).mono ?_
        rintro e w2 ⟨rfl, b2⟩
        have b3 := gtrans b1 b2
        go_wp2_with fail
        refine (awake32_walk _).mono ?_
        rintro e w9 ⟨rfl, b9⟩
        go_wp2_with fail
        go_ret
        exact ⟨rfl, gtrans b3 b9⟩
      · obtain ⟨x, E, ka, kb⟩ := both_un (s.extract 0 300) m (hes (by omega))
        have KA := Lib.hid ka
        have KB := Lib.hid kb
        clear ka kb hes
        go_enter Try.func3, Try.ntmps3
        go_wp2_with fail
        refine (KA.out _).mono ?_
        rintro e w1 ⟨rfl, b1⟩
        go_wp2_with fail
        refine (KB.out _).mono ?_
        rintro e w2 ⟨rfl, b2⟩
        have b3 := gtrans b1 b2
        go_wp2_with fail
        refine (awake32_walk _).mono ?_
        rintro e w9 ⟨rfl, b9⟩
        go_wp2_with fail
        go_ret
        exact ⟨rfl, gtrans b3 b9⟩
end Go.Proofs.Ytnhchmbbhkgccaa
