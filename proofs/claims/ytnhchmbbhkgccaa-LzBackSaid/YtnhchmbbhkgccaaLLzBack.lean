/- The walk of the statement LzBack of layer 32. -/
import Derived.Test.YtnhchmbbhkgccaaLzAwake
namespace Go.Proofs.Ytnhchmbbhkgccaa
open Go.RowKit Vm Lz
set_option linter.unusedVariables false
set_option linter.unusedSimpArgs false

set_option maxRecDepth 100000 in
set_option maxHeartbeats 8000000 in
theorem lzBack_law (s : ByteArray) (w : World) (hs : s.size ≤ 140737488351232) :
    Calls Try.prog 4 #[.string s] w fun e w' => e = .returned (.bool true) ∧ Below w.heap.size w w' := by
  have K1 := Lib.hid (cut_walk s w (by unfold maxLen; omega))
  obtain ⟨S, hS⟩ : ∃ S, cutS 20000 s = S := ⟨_, rfl⟩
  have hSs : S.size ≤ 20000 := by rw [← hS]; exact cutS_size _ _
  rw [hS] at K1
  have K2 := Lib.hid (fun w => pack_walk S w (by omega))
  clear hS
  go_enter Try.func4, Try.ntmps4
  go_wp2_with fail
  refine K1.out.mono ?_
  rintro e w1 ⟨rfl, b1⟩
  clear K1
  go_wp2_with fail
  refine (K2.out _).mono ?_
  rintro e w2 ⟨t, ht, rfl, b2⟩
  obtain ⟨hu, hl⟩ := pack_U ht (by rw [toList_length]; omega)
  rw [toList_length] at hl
  have hts := str_size t
  have b2' := gtrans b1 b2
  clear K2 ht b1 b2
  have K3 := Lib.hid (fun w => unpack_walk (str t) S.size w (by omega) (by rw [hts]; unfold maxLen; omega))
  rw [str_toList, un_of_U hu (by rw [toList_length]; omega)] at K3
  rw [unV_some, str_data] at K3
  by_cases h0 : S.size = 0
  · have h0i : ((S.size : Int) == 0) = true := by rw [h0]; rfl
    clear hu h0 hts hl
    go_wp2_with fail
    refine (K3.out _).mono ?_
    rintro e w3 ⟨rfl, b3⟩
    have b4 := gtrans b2' b3
    go_wp2_with fail
    refine (awake32_walk _).mono ?_
    rintro e w9 ⟨rfl, b9⟩
    go_wp2_with fail
    go_ret
    exact ⟨rfl, gtrans b4 b9⟩
  · obtain ⟨q, hq⟩ : ∃ q, S.size - 1 = q := ⟨_, rfl⟩
    have K4 := Lib.hid (fun w => unpack_walk (str t) q w (by omega) (by rw [hts]; unfold maxLen; omega))
    rw [str_toList, un_of_big hu (by rw [toList_length]; omega) (by simp)] at K4
    unfold unV at K4
    have e1 : str [] = { data := #[] } := rfl
    rw [e1, show ((q : Nat) : Int) = (S.size : Int) - 1 by omega] at K4
    have h0i : ((S.size : Int) == 0) = false := by rw [beq_eq_false_iff_ne]; omega
    have h0n : ¬ S.size = 0 := h0
    clear hu hq h0 hts hl
    go_wp2_with fail
    refine (K3.out _).mono ?_
    rintro e w3 ⟨rfl, b3⟩
    go_wp2_with fail
    refine (K4.out _).mono ?_
    rintro e w4 ⟨rfl, b4⟩
    have b5 := gtrans (gtrans b2' b3) b4
    go_wp2_with fail
    refine (awake32_walk _).mono ?_
    rintro e w9 ⟨rfl, b9⟩
    go_wp2_with fail
    go_ret
    exact ⟨rfl, gtrans b5 b9⟩
end Go.Proofs.Ytnhchmbbhkgccaa
