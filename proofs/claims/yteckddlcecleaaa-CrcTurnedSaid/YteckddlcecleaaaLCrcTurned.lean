/- The walk of the statement CrcTurned of layer 2. -/
import Derived.Test.YteckddlcecleaaaUnseal
import Derived.Test.YteckddlcecleaaaTurned
namespace Go.Proofs.Yteckddlcecleaaa
open Go.RowKit Vm Cm
set_option linter.unusedVariables false
set_option maxRecDepth 100000 in
set_option maxHeartbeats 4000000 in
theorem crcTurned_law (s : ByteArray) (a m : Int) (w : World) (hs : s.size ≤ 140737488351232) (ha0 : (Lit.int .i64 a).wf = true) (hm0 : (Lit.int .u32 m).wf = true) :
    Calls Try.prog 3 #[.string s, .int .i64 a, .int .u32 m] w fun e w' => e = .returned (.bool true) ∧ Below w.heap.size w w' := by
  have hm2 : s.size ≤ 140737488355328 := by omega
  have ha := wf_i64 ha0
  have hm := wf_u32 hm0
  clear ha0 hm0
  by_cases h1 : 100000 < s.size
  · have h1' : (100000 : Int) < (s.size : Int) := by omega
    go_enter Try.func3, Try.ntmps3
    go_wp2_with fail
    refine (awake2_walk _).mono ?_
    rintro e w3 ⟨rfl, rfl⟩
    go_wp2_with fail
    go_ret
    exact ⟨rfl, Below.refl _ _⟩
  · have hxl : (s ++ str (four (sum s.data.toList))).data.toList = seal' s.data.toList := by
      rw [ByteArray.data_append, Array.toList_append, str_toList]; rfl
    have hxs : (s ++ str (four (sum s.data.toList))).size = s.size + 4 := by rw [ByteArray.size_append, str_size, four_length]
    have S1 := Lib.hid (fun w => seal_walk s w hm2)
    generalize hx : s ++ str (four (sum s.data.toList)) = x at *
    have HX := Lib.hid hx
    have HXL := Lib.hid hxl
    have hxs2 : x.size ≤ 100004 := by omega
    have hxs3 : (x.size : Int) ≤ 100004 := by omega
    have HXS := Lib.hid hxs
    clear hx hxl hxs
    by_cases h2 : a < 0 ∨ 8 * (x.size : Int) ≤ a
    · rcases h2 with h2 | h2
      · go_enter Try.func3, Try.ntmps3
        go_wp2_with fail
        refine (S1.out _).mono ?_
        rintro e w1 ⟨rfl, g1⟩
        go_wp2_with fail
        refine (awake2_walk _).mono ?_
        rintro e w3 ⟨rfl, rfl⟩
        go_wp2_with fail
        go_ret
        exact ⟨rfl, g1⟩
      · have h3 : ¬ a < 0 := by omega
        go_enter Try.func3, Try.ntmps3
        go_wp2_with fail
        refine (S1.out _).mono ?_
        rintro e w1 ⟨rfl, g1⟩
        go_wp2_with fail
        refine (awake2_walk _).mono ?_
        rintro e w3 ⟨rfl, rfl⟩
        go_wp2_with fail
        go_ret
        exact ⟨rfl, g1⟩
    · obtain ⟨n, rfl⟩ := Int.eq_ofNat_of_zero_le (show 0 ≤ a by omega)
      obtain ⟨M, rfl⟩ := Int.eq_ofNat_of_zero_le hm.1
      have h3 : ¬ (n : Int) < 0 := by omega
      have h4 : ¬ 8 * (x.size : Int) ≤ (n : Int) := by omega
      have h5 : n < 8 * x.size := by omega
      clear h2
      go_enter Try.func3, Try.ntmps3
      go_wp2_with fail
      refine (S1.out _).mono ?_
      rintro e w1 ⟨rfl, g1⟩
      go_wp2_with fail
      refine (turned_walk x n M _ (by omega) h5 (by omega)).mono ?_
      rintro e w2 ⟨b, X, rfl, hbl, hX, hN, g2⟩
      have hl : (seal' s.data.toList).length = x.size := by rw [← HXL.out]; exact toList_length x
      rw [HXL.out] at hN
      by_cases hne : b = seal' s.data.toList
      · have hq : (x.toList == (str b).toList) = true := by rw [hne, ← HXL.out, str_data]; exact bytes_eq _
        have HNE := Lib.hid hne
        have HBL := Lib.hid hbl
        clear hne hN hl hbl
        go_wp2_with fail
        refine (awake2_walk _).mono ?_
        rintro e w3 ⟨rfl, rfl⟩
        go_wp2_with fail
        go_ret
        exact ⟨rfl, gtrans g1 g2⟩
      · have hq : (x.toList == (str b).toList) = false := bytes_ne (fun h => hne (by rw [← HXL.out, h, str_toList]))
        have hU := turned_unseal (l := s.data.toList) (b := b) (at' := n) (X := X) (by omega) (by omega) hX hN hne
        have hbz : (str b).size ≤ maxLen := by rw [str_size]; unfold maxLen; omega
        have hq0 := bytes_eq (str [])
        have hs0 : str [] = ⟨#[]⟩ := rfl
        have HU := Lib.hid hU
        have HBZ := Lib.hid hbz
        have HNE := Lib.hid hne
        clear hne hN hl hbl hU hbz
        go_wp2_with fail
        refine (unseal_walk _ _ HBZ.out).mono ?_
        rw [str_toList, HU.out]
        rintro e w3 ⟨rfl, g3⟩
        go_wp2_with fail
        refine (awake2_walk _).mono ?_
        rintro e w4 ⟨rfl, rfl⟩
        go_wp2_with fail
        go_ret
        exact ⟨rfl, gtrans (gtrans g1 g2) g3⟩
end Go.Proofs.Yteckddlcecleaaa
