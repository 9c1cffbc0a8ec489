/- The walk of the statement LzCut of layer 32. -/
import Derived.Test.YtnhchmbbhkgccaaLzAwake
namespace Go.Proofs.Ytnhchmbbhkgccaa
open Go.RowKit Vm Lz
set_option linter.unusedVariables false
set_option linter.unusedSimpArgs false

set_option maxRecDepth 100000 in
set_option maxHeartbeats 8000000 in
theorem lzCut_law (s : ByteArray) (at' : Int) (w : World) (hs : s.size ≤ 140737488351232) (hat : (Lit.int .i64 at').wf = true) :
    Calls Try.prog 8 #[.string s, .int .i64 at'] w fun e w' => e = .returned (.bool true) ∧ Below w.heap.size w w' := by
  have K1 := Lib.hid (cut_walk s w (by unfold maxLen; omega))
  obtain ⟨S, hS⟩ : ∃ S, cutS 20000 s = S := ⟨_, rfl⟩
  have hSs : S.size ≤ 20000 := by rw [← hS]; exact cutS_size _ _
  rw [hS] at K1
  have K2 := Lib.hid (fun w => pack_walk S w (by omega))
  clear hS
  go_enter Try.func8, Try.ntmps8
  go_wp2_with fail
  refine K1.out.mono ?_
  rintro e w1 ⟨rfl, b1⟩
  clear K1
  go_wp2_with fail
  refine (K2.out _).mono ?_
  rintro e w2 ⟨t, ht, rfl, b2⟩
  obtain ⟨hu, hl⟩ := pack_U ht (by rw [toList_length]; omega)
  rw [toList_length] at hl
  have hts := str_size t
  have b2' := gtrans b1 b2
  clear K2 ht b1 b2
  by_cases h1 : at' < 0
  · clear hu
    go_wp2_with fail
    refine (awake32_walk _).mono ?_
    rintro e w9 ⟨rfl, b9⟩
    go_wp2_with fail
    go_ret
    exact ⟨rfl, gtrans b2' b9⟩
  · obtain ⟨k, rfl⟩ : ∃ k : Nat, at' = (k : Int) := ⟨at'.toNat, by omega⟩
    by_cases h2 : k < t.length
    · have h2i : ¬ (((str t).size : Nat) : Int) ≤ (k : Int) := by omega
      have h2j : (k : Int) ≤ ((str t).size : Int) := by omega
      have h2k : 0 ≤ (k : Int) := by omega
      have h2n : ¬ (str t).size ≤ k := by omega
      have hes : ((str t).extract 0 k).size = k := extract_size _ _ (by omega)
      have K3 := fun w => unpack_walk ((str t).extract 0 k) 1048576 w (by omega) (by rw [hes]; unfold maxLen; omega)
      rw [← str_take, str_toList, str_toList] at K3
      rw [show str (t.take k) = (str t).extract 0 k by rw [← str_take, str_toList]] at K3
      rcases un_cut (most := 1048576) hu (by rw [toList_length]; omega) k h2 with hn | ⟨t2, u, hn, hu0, he⟩
      · rw [hn] at K3
        unfold unV at K3
        have e1 : str [] = { data := #[] } := rfl
        rw [e1] at K3
        have K3 := Lib.hid K3
        clear hu hn h2 hes
        go_wp2_with fail
        refine (K3.out _).mono ?_
        rintro e w3 ⟨rfl, b3⟩
        have b4 := gtrans b2' b3
        go_wp2_with fail
        refine (awake32_walk _).mono ?_
        rintro e w9 ⟨rfl, b9⟩
        go_wp2_with fail
        go_ret
        exact ⟨rfl, gtrans b4 b9⟩
      · rw [hn] at K3
        unfold unV at K3
        have K3 := Lib.hid K3
        have hlen := congrArg List.length he
        rw [toList_length, List.length_append] at hlen
        have hup : 0 < u.length := List.length_pos_iff.2 hu0
        have ht2 := str_size t2
        have hlt : ((str t2).size : Int) < (S.size : Int) := by omega
        have hle : ((str t2).size : Int) ≤ (S.size : Int) := by omega
        have hltn : (str t2).size < S.size := by omega
        have hex : S.extract 0 (str t2).size = str t2 := by rw [← str_take, he, ht2, List.take_left]
        clear hu hn h2 hes he hlen hup ht2
        go_wp2_with fail
        refine (K3.out _).mono ?_
        rintro e w3 ⟨rfl, b3⟩
        have b4 := gtrans b2' b3
        go_wp2_with fail
        refine (awake32_walk _).mono ?_
        rintro e w9 ⟨rfl, b9⟩
        go_wp2_with fail
        go_ret
        exact ⟨rfl, gtrans b4 b9⟩
    · have h2i : (((str t).size : Nat) : Int) ≤ (k : Int) := by omega
      have h2n : (str t).size ≤ k := by omega
      clear hu
      go_wp2_with fail
      refine (awake32_walk _).mono ?_
      rintro e w9 ⟨rfl, b9⟩
      go_wp2_with fail
      go_ret
      exact ⟨rfl, gtrans b2' b9⟩
end Go.Proofs.Ytnhchmbbhkgccaa
