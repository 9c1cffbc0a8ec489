/- The walk of the statement FrameTurned of layer 3. -/
import Derived.Test.YteckddlcecleaaaLFrameTakes
import Derived.Test.YteckddlcecleaaaFrTurnMath
import Derived.Test.YteckddlcecleaaaTurned
import Derived.IntWalk
namespace Go.Proofs.Yteckddlcecleaaa
open Go.RowKit Vm Cm Fm
set_option linter.unusedVariables false

set_option maxRecDepth 100000 in
set_option maxHeartbeats 4000000 in
theorem frameTurned_law (b n : Int) (t : ByteArray) (a m : Int) (q : ByteArray) (w : World) (hb0 : (Lit.int .i64 b).wf = true) (hn0 : (Lit.int .i64 n).wf = true) (ht : t.size ≤ maxLen) (ha0 : (Lit.int .i64 a).wf = true) (hm0 : (Lit.int .u32 m).wf = true) (hs : q.size ≤ 140737488351232) :
    Calls Try.prog 10 #[ev b n t, .int .i64 a, .int .u32 m, .string q] w fun e w' => e = .returned (.bool true) ∧ Below w.heap.size w w' := by
  have N0 := Lib.hid (Box3.start w (.int .i64 b) (.int .i64 n) (.string t) 31)
  have hbel : Below w.heap.size w (w.alloc (.cells #[.int .i64 b, .int .i64 n, .string t] 31)) := (Below.refl _ _).alloc (Nat.le_refl _) _
  have ha := wf_i64 ha0
  have hmu := wf_u32 hm0
  clear ha0 hm0 hb0 hn0
  by_cases hl : (20000 : Int) < (t.size : Int)
  · go_enter Try.func10, Try.ntmps10
    go_wp2_with fail
    refine (awake3_walk _).mono ?_
    rintro e w4 ⟨rfl, g4⟩
    go_wp2_with fail
    go_ret
    exact ⟨rfl, hbel.trans (g4.mono hbel.size)⟩
  · by_cases hl2 : (20000 : Int) < (q.size : Int)
    · go_enter Try.func10, Try.ntmps10
      go_wp2_with fail
      refine (awake3_walk _).mono ?_
      rintro e w4 ⟨rfl, g4⟩
      go_wp2_with fail
      go_ret
      exact ⟨rfl, hbel.trans (g4.mono hbel.size)⟩
    · by_cases hm : MayE b n t.data.toList
      · have hi := hm.i64
        have hbd := body_len hm
        have hFl := frameL_len b n t.data.toList
        have hHl := headL_len (bodyL b n t.data.toList)
        have hpl := putL_len (i64_len (l := bodyL b n t.data.toList) (by omega))
        have hpb := putL_len hi.1
        have hpn := putL_len hi.2
        have hbl : (bodyL b n t.data.toList).length = (putL b).length + (putL n).length + t.size := by
          unfold bodyL; rw [List.length_append, List.length_append, toList_length]; omega
        have H1 := Lib.hid (fun w => flay_yes b n t w hm)
        have P1 := Lib.hid (fun (x : Int) w (h : I64 x) => ref_put_walk x w h)
        have hw1 : IntKind.i64.wrap (((str (putL b)).size : Int) + ((str (putL n)).size : Int)) = ((str (putL b)).size : Int) + ((str (putL n)).size : Int) := IntWalk.i64_in _ (by rw [str_size, str_size]; omega)
        have hw2 : IntKind.i64.wrap (((str (putL b)).size : Int) + ((str (putL n)).size : Int) + (t.size : Int)) = ((bodyL b n t.data.toList).length : Int) := by
          rw [IntWalk.i64_in _ (by rw [str_size, str_size]; omega), str_size, str_size, hbl]; omega
        obtain ⟨K, hK⟩ : ∃ K, K = (str (putL ((bodyL b n t.data.toList).length : Int))).size := ⟨_, rfl⟩
        have hKl : K = (putL ((bodyL b n t.data.toList).length : Int)).length := by rw [hK, str_size]
        have hKb : K ≤ 10 := by omega
        have hFz : (str (frameL b n t.data.toList)).size = (frameL b n t.data.toList).length := str_size _
        have I1 := Lib.hid hi.1
        have I2 := Lib.hid hi.2
        have I3 := Lib.hid (i64_len (l := bodyL b n t.data.toList) (by omega))
        have hcase : a < 8 * (K : Int) ∨ (¬ a < 8 * (K : Int) ∧ 8 * ((str (frameL b n t.data.toList)).size : Int) ≤ a) ∨ (¬ a < 8 * (K : Int) ∧ ¬ 8 * ((str (frameL b n t.data.toList)).size : Int) ≤ a) := by omega
        have HM := Lib.hid hm
        have HKL := Lib.hid hKl
        have hKe : (str (putL ((bodyL b n t.data.toList).length : Int))).size = K := hK.symm
        have hFb : (str (frameL b n t.data.toList)).size ≤ 65570 := by omega
        have HFZ := Lib.hid hFz
        clear hm hi hbd hFl hHl hpl hpb hpn hbl hKl hK hFz
        have hself : ∀ w1 : World, Below w1.heap.size w1 w1.drew := fun w1 => (Below.refl _ _).drew
        have Hself := Lib.hid hself
        clear hself
        rcases hcase with hc | ⟨hc1, hc2⟩ | ⟨hc1, hc2⟩
        · go_enter Try.func10, Try.ntmps10
          go_wp2_with fail
          refine (H1.out _).mono ?_
          rintro e w1 ⟨rfl, g1⟩
          have hb1 := hbel.trans (g1.mono hbel.size)
          obtain ⟨x0, x1, x2, _, _, _, x3⟩ := N0.out.keep g1
          have hself := Hself.out w1
          clear g1 hbel N0
          go_wp2_with fail
          go_region_held3 (fun w' => w'.cell? ⟨w.heap.size, 0, none⟩ = some (.int .i64 b) ∧ w'.cell? ⟨w.heap.size, 1, none⟩ = some (.int .i64 n) ∧ w'.cell? ⟨w.heap.size, 2, none⟩ = some (.string t) ∧ w.heap.size < w'.heap.size ∧ Below w1.heap.size w1 w')
            (first | assumption | exact ⟨x0, x1, x2, x3, hself⟩ | exact held_alloc (by assumption) _)
            (first
              | (go_at_call 27; refine (P1.out _ _ (by first | exact I1.out | exact I2.out | exact I3.out)).mono ?_; rintro e w3 ⟨rfl, h3⟩; have y := held_keep (by assumption) h3))
          all_goals
            have hb2 := hb1.trans (y.2.2.2.2.mono hb1.size)
            clear y
            go_wp2_with fail
            refine (awake3_walk _).mono ?_
            rintro e w4 ⟨rfl, g4⟩
            go_wp2_with fail
            go_ret
            exact ⟨rfl, hb2.trans (g4.mono hb2.size)⟩
        · go_enter Try.func10, Try.ntmps10
          go_wp2_with fail
          refine (H1.out _).mono ?_
          rintro e w1 ⟨rfl, g1⟩
          have hb1 := hbel.trans (g1.mono hbel.size)
          obtain ⟨x0, x1, x2, _, _, _, x3⟩ := N0.out.keep g1
          have hself := Hself.out w1
          clear g1 hbel N0
          go_wp2_with fail
          go_region_held3 (fun w' => w'.cell? ⟨w.heap.size, 0, none⟩ = some (.int .i64 b) ∧ w'.cell? ⟨w.heap.size, 1, none⟩ = some (.int .i64 n) ∧ w'.cell? ⟨w.heap.size, 2, none⟩ = some (.string t) ∧ w.heap.size < w'.heap.size ∧ Below w1.heap.size w1 w')
            (first | assumption | exact ⟨x0, x1, x2, x3, hself⟩ | exact held_alloc (by assumption) _)
            (first
              | (go_at_call 27; refine (P1.out _ _ (by first | exact I1.out | exact I2.out | exact I3.out)).mono ?_; rintro e w3 ⟨rfl, h3⟩; have y := held_keep (by assumption) h3))
          all_goals
            have hb2 := hb1.trans (y.2.2.2.2.mono hb1.size)
            clear y
            go_wp2_with fail
            refine (awake3_walk _).mono ?_
            rintro e w4 ⟨rfl, g4⟩
            go_wp2_with fail
            go_ret
            exact ⟨rfl, hb2.trans (g4.mono hb2.size)⟩
        · obtain ⟨A, rfl⟩ := Int.eq_ofNat_of_zero_le (show 0 ≤ a by omega)
          obtain ⟨M, rfl⟩ := Int.eq_ofNat_of_zero_le hmu.1
          have hA : A < 8 * (str (frameL b n t.data.toList)).size := by omega
          have hA8 : 8 * K ≤ A := by omega
          go_enter Try.func10, Try.ntmps10
          go_wp2_with fail
          refine (H1.out _).mono ?_
          rintro e w1 ⟨rfl, g1⟩
          have hb1 := hbel.trans (g1.mono hbel.size)
          obtain ⟨x0, x1, x2, _, _, _, x3⟩ := N0.out.keep g1
          have hself := Hself.out w1
          clear g1 hbel N0
          go_wp2_with fail
          go_region_held3 (fun w' => w'.cell? ⟨w.heap.size, 0, none⟩ = some (.int .i64 b) ∧ w'.cell? ⟨w.heap.size, 1, none⟩ = some (.int .i64 n) ∧ w'.cell? ⟨w.heap.size, 2, none⟩ = some (.string t) ∧ w.heap.size < w'.heap.size ∧ Below w1.heap.size w1 w')
            (first | assumption | exact ⟨x0, x1, x2, x3, hself⟩ | exact held_alloc (by assumption) _)
            (first
              | (go_at_call 27; refine (P1.out _ _ (by first | exact I1.out | exact I2.out | exact I3.out)).mono ?_; rintro e w3 ⟨rfl, h3⟩; have y := held_keep (by assumption) h3))
          all_goals
            have hb2 := hb1.trans (y.2.2.2.2.mono hb1.size)
            clear y
            go_wp2_with fail
            refine (turned_walk (str (frameL b n t.data.toList)) A M _ (by omega) hA (by omega)).mono ?_
            rintro e w4 ⟨c, X, rfl, hcl, hX, hN, g4⟩
            have hb4 := hb2.trans (g4.mono hb2.size)
            rw [str_toList] at hN
            clear g4 hb2
            by_cases hne : c = frameL b n t.data.toList
            · have hq : ((str (frameL b n t.data.toList)).toList == (str c).toList) = true := by rw [hne]; exact bytes_eq _
              have HNE := Lib.hid hne
              have HCL := Lib.hid hcl
              clear hne hN hcl
              go_wp2_with fail
              refine (awake3_walk _).mono ?_
              rintro e w5 ⟨rfl, g5⟩
              go_wp2_with fail
              go_ret
              exact ⟨rfl, hb4.trans (g5.mono hb4.size)⟩
            · have hq : ((str (frameL b n t.data.toList)).toList == (str c).toList) = false := bytes_ne (fun h => hne (str_inj h).symm)
              have hcs : (str c).size = (str (frameL b n t.data.toList)).size := by rw [str_size]; exact hcl
              have hnf := turned_noFr (c := c) (more := q.data.toList) (by rw [hcl, HFZ.out]) (by rw [← HKL.out]; exact hA8) (by rw [← HFZ.out]; exact hA) hX hN hne
              have hz : (str c ++ q).size ≤ 140737488355328 := by rw [ByteArray.size_append, hcs]; omega
              have hsum : ¬ (9223372036854775807 < (str c).size + q.size) := by rw [hcs]; omega
              have H2 := Lib.hid (fun w => ftake_no (str c ++ q) w hz (by rw [str_append]; exact hnf))
              have hq0 := bytes_eq ⟨#[]⟩
              have HNE := Lib.hid hne
              clear hne hN hcl hcs hnf hz
              go_wp2_with fail
              refine (H2.out _).mono ?_
              rintro e w5 ⟨rfl, g5⟩
              have hb5 := hb4.trans (g5.mono hb4.size)
              have hal := hb5.alloc hb5.size (.cells #[.int .i64 0, .int .i64 0, .string ⟨#[]⟩] 31)
              clear g5 hb4 hb5
              go_wp2_with fail
              refine (awake3_walk _).mono ?_
              rintro e w6 ⟨rfl, g6⟩
              go_wp2_with fail
              go_ret
              exact ⟨rfl, hal.trans (g6.mono hal.size)⟩
      · have hq := bytes_eq ⟨#[]⟩
        have H1 := Lib.hid (fun w => flay_no b n t w hm)
        clear hm
        go_enter Try.func10, Try.ntmps10
        go_wp2_with fail
        refine (H1.out _).mono ?_
        rintro e w1 ⟨rfl, g1⟩
        have hb1 := hbel.trans (g1.mono hbel.size)
        clear g1 hbel N0
        go_wp2_with fail
        refine (awake3_walk _).mono ?_
        rintro e w4 ⟨rfl, g4⟩
        go_wp2_with fail
        go_ret
        exact ⟨rfl, hb1.trans (g4.mono hb1.size)⟩
end Go.Proofs.Yteckddlcecleaaa
