/- The walk of the statement LzShort of layer 32. -/
import Derived.Test.YtnhchmbbhkgccaaLzAwake
namespace Go.Proofs.Ytnhchmbbhkgccaa
open Go.RowKit Vm Lz
set_option linter.unusedVariables false
set_option linter.unusedSimpArgs false

set_option maxRecDepth 100000 in
set_option maxHeartbeats 8000000 in
theorem lzShort_law (s : ByteArray) (w : World) (hs : s.size ≤ 140737488351232) :
    Calls Try.prog 5 #[.string s] w fun e w' => e = .returned (.bool true) ∧ Below w.heap.size w w' := by
  have K1 := Lib.hid (cut_walk s w (by unfold maxLen; omega))
  obtain ⟨S, hS⟩ : ∃ S, cutS 20000 s = S := ⟨_, rfl⟩
  have hSs : S.size ≤ 20000 := by rw [← hS]; exact cutS_size _ _
  rw [hS] at K1
  have K2 := Lib.hid (fun w => pack_walk S w (by omega))
  clear hS
  go_enter Try.func5, Try.ntmps5
  go_wp2_with fail
  refine K1.out.mono ?_
  rintro e w1 ⟨rfl, b1⟩
  clear K1
  go_wp2_with fail
  refine (K2.out _).mono ?_
  rintro e w2 ⟨t, ht, rfl, b2⟩
  have hl := (pack_U ht (by rw [toList_length]; omega)).2
  rw [toList_length] at hl
  have hts := str_size t
  have hl2 : ((str t).size : Int) ≤ (S.size : Int) + 10 := by omega
  clear K2 ht
  go_wp2_with fail
  refine (awake32_walk _).mono ?_
  rintro e w3 ⟨rfl, b3⟩
  go_wp2_with fail
  go_ret
  exact ⟨rfl, gtrans (gtrans b1 b2) b3⟩
end Go.Proofs.Ytnhchmbbhkgccaa
