/- The walk of headgateref03.Take. -/
import Derived.Test.YteckddlcecleaaaFrTake
import Derived.Test.YteckddlcecleaaaRefTake
namespace Go.Proofs.Yteckddlcecleaaa
open Go.RowKit Vm Cm Fm
set_option linter.unusedVariables false

theorem Box3.start2 (w : World) (x y z u v q : Value) (T S : TypeId) : Box3 ((w.alloc (.cells #[x, y, z] T)).alloc (.cells #[u, v, q] S)) w.heap.size x y z :=
  (Box3.start w x y z T).keep ((Below.refl _ _).alloc (Nat.le_refl _) _)
theorem Box3.start3 (w : World) (x y z u v q : Value) (T S : TypeId) : Box3 ((w.alloc (.cells #[x, y, z] T)).alloc (.cells #[u, v, q] S)) (w.heap.size + 1) u v q := by
  have := Box3.start (w.alloc (.cells #[x, y, z] T)) u v q S
  simpa using this

set_option maxRecDepth 100000 in
set_option maxHeartbeats 4000000 in
theorem ref_ftake_yes (s : ByteArray) (b n : Int) (t r : List UInt8) (w : World) (hs : s.size ≤ 140737488355328) (hf : Fr s.data.toList b n t r) :
    Calls Try.prog 23 #[.string s] w fun e w' => e = .returned (.tuple #[ev b n (str t), .string (str r), .int .i64 0]) ∧ Below w.heap.size w w' := by
  have hsm : s.size ≤ maxLen := by unfold maxLen; omega
  obtain ⟨_, hsz, hex⟩ := frame_parts hf hs
  have hm := hf.1
  have hbl := body_len hm
  have hi := hm.i64
  have hfl := frameL_pos b n t
  have hFl : (frameL b n t).length = (headL (bodyL b n t)).length + 4 := frameL_len b n t
  have hHl := headL_len (bodyL b n t)
  have he : s.data.toList = putL ((bodyL b n t).length : Int) ++ (bodyL b n t ++ (four (sum (headL (bodyL b n t))) ++ r)) := by
    rw [hf.2]; unfold frameL seal' headL; simp only [List.append_assoc]
  have hA : textA s (s.size : Int) = (bodyL b n t, four (sum (headL (bodyL b n t))) ++ r, 0) := textA_put s _ _ _ (by omega) (by omega) he
  have hT1 : takeA (str (bodyL b n t)) = (b, putL n ++ t, 0) := takeA_put hi.1 _ _ (by rw [str_toList]; rfl)
  have hT2 : takeA (str (putL n ++ t)) = (n, t, 0) := takeA_put hi.2 _ _ (by rw [str_toList])
  have hbz : (str (bodyL b n t)).size ≤ maxLen := by rw [str_size]; unfold maxLen; omega
  have hbz2 : (str (putL n ++ t)).size ≤ maxLen := by
    have : (bodyL b n t).length = (putL b).length + (putL n ++ t).length := by unfold bodyL; rw [List.length_append]
    rw [str_size]; unfold maxLen; omega
  have HM := Lib.hid (show MayE b n (str t).data.toList by rw [str_toList]; exact hm)
  have hL := fun w => ref_flay_yes b n (str t) w HM.out
  rw [str_toList] at hL
  have HL := Lib.hid hL
  obtain ⟨R, hR⟩ : ∃ R, R = four (sum (headL (bodyL b n t))) ++ r := ⟨_, rfl⟩
  have hRs : (str R).size = r.length + 4 := by rw [str_size, hR, List.length_append, four_length]; omega
  rw [← hR] at hA
  have hRs1 : ¬ ((str R).size : Int) < 4 := by omega
  have hk : (s.size : Int) - ((str R).size : Int) + 4 = ((frameL b n t).length : Int) := by omega
  have hk0 : 0 ≤ (s.size : Int) - ((str R).size : Int) := by omega
  have hkl : (frameL b n t).length ≤ s.size := by omega
  have hrest : s.extract (frameL b n t).length s.size = str r := by rw [← str_drop, hf.2, List.drop_left]
  have hq := bytes_eq (str (frameL b n t))
  have HA := Lib.hid hA
  have HT1 := Lib.hid hT1
  have HT2 := Lib.hid hT2
  have hbel : Below w.heap.size w ((w.alloc (.cells #[.int .i64 0, .int .i64 0, .string ⟨#[]⟩] 31)).alloc (.cells #[.int .i64 0, .int .i64 0, .string ⟨#[]⟩] 31)) := ((Below.refl _ _).alloc (Nat.le_refl _) _).alloc (by simp) _
  have B0 := Lib.hid (Box3.start2 w (.int .i64 0) (.int .i64 0) (.string ⟨#[]⟩) (.int .i64 0) (.int .i64 0) (.string ⟨#[]⟩) 31 31)
  have HBZ := Lib.hid hbz
  have HBZ2 := Lib.hid hbz2
  clear hA hT1 hT2 hi hm hf hbl hR hsz hRs hbz hbz2 hfl hL he hFl hHl
  generalize frameL b n t = F at *
  generalize bodyL b n t = Bd at *
  generalize hMo : putL n ++ t = Mo at *
  clear hMo
  go_enter Try.func23, Try.ntmps23
  go_wp2_with fail
  refine (ref_take_text_walk s (s.size : Int) _ hsm).mono ?_
  rw [HA.out]
  rintro e w1 ⟨rfl, g1⟩
  have hb1 := hbel.trans (g1.mono hbel.size)
  have B1 := B0.out.keep g1
  clear g1 hbel B0
  go_wp2_with fail
  refine (ref_take_walk (str Bd) _ HBZ.out).mono ?_
  rw [HT1.out]
  rintro e w2 ⟨rfl, g2⟩
  have hb2 := hb1.trans (g2.mono hb1.size)
  have B2 := B1.keep g2
  clear g2 hb1 B1
  go_wp2_with fail
  refine (ref_take_walk (str Mo) _ HBZ2.out).mono ?_
  rw [HT2.out]
  rintro e w3 ⟨rfl, g3⟩
  have hb3 := hb2.trans (g3.mono hb2.size)
  have B3 := B2.keep g3
  clear g3 hb2 B2
  have N1 := (Box3.start w3 (.int .i64 b) (.int .i64 n) (.string (str t)) 31)
  have hal : Below w3.heap.size w3 ((w3.alloc (.cells #[.int .i64 b, .int .i64 n, .string (str t)] 31))) := ((Below.refl _ _).alloc (Nat.le_refl _) _)
  have B4 := B3.keep hal
  have hb4 := hb3.trans (hal.mono hb3.size)
  clear B3 hb3 hal
  go_wp2_with fail
  refine (HL.out _).mono ?_
  rintro e w5 ⟨rfl, g5⟩
  have B5 := B4.keep g5
  have N5 := N1.keep g5
  have hb5 := hb4.trans (g5.mono hb4.size)
  clear B4 N1 hb4 g5
  obtain ⟨c0, c1, c2, f0, f1', f2', lt⟩ := B5
  obtain ⟨n0, n1, n2, m0, m1, m2, lt2⟩ := N5
  go_wp2_with fail
  go_region
  all_goals
    go_wp2_with fail
    refine bodyPost_ret (v := .tuple #[ev b n (str t), .string (str r), .int .i64 0]) (by simp [results, Try.results23, go_sem, c0, c1, c2]) rfl ⟨rfl, ?_⟩
    exact (((hb5.setCell (Nat.le_refl _) _).setCell (Nat.le_refl _) _).setCell (Nat.le_refl _) _).drew

theorem noFr_of {s : List UInt8} {b n : Int} {t : List UInt8} {k : Nat} (hf : NoFr s) (hm : MayE b n t) : frameL b n t ≠ s.take k := by
  intro h
  exact hf b n t (s.drop k) ⟨hm, by rw [h, List.take_append_drop]⟩

set_option maxRecDepth 100000 in
set_option maxHeartbeats 4000000 in
theorem ref_ftake_no (s : ByteArray) (w : World) (hs : s.size ≤ 140737488355328) (hf : NoFr s.data.toList) :
    Calls Try.prog 23 #[.string s] w fun e w' => e = .returned (.tuple #[ev 0 0 ⟨#[]⟩, .string ⟨#[]⟩, .int .i64 2]) ∧ Below w.heap.size w w' := by
  have hsm : s.size ≤ maxLen := by unfold maxLen; omega
  have hbel : Below w.heap.size w ((w.alloc (.cells #[.int .i64 0, .int .i64 0, .string ⟨#[]⟩] 31)).alloc (.cells #[.int .i64 0, .int .i64 0, .string ⟨#[]⟩] 31)) := ((Below.refl _ _).alloc (Nat.le_refl _) _).alloc (by simp) _
  have B0 := Lib.hid (Box3.start2 w (.int .i64 0) (.int .i64 0) (.string ⟨#[]⟩) (.int .i64 0) (.int .i64 0) (.string ⟨#[]⟩) 31 31)
  have D0 := Lib.hid (Box3.start3 w (.int .i64 0) (.int .i64 0) (.string ⟨#[]⟩) (.int .i64 0) (.int .i64 0) (.string ⟨#[]⟩) 31 31)
  have hs0 : str [] = ⟨#[]⟩ := rfl
  rcases textA_cases s (s.size : Int) with hA | ⟨body, rest, hA, hib, hbl, he⟩
  · have HA := Lib.hid hA
    clear hA hf
    go_enter Try.func23, Try.ntmps23
    go_wp2_with fail
    refine (ref_take_text_walk s (s.size : Int) _ hsm).mono ?_
    rw [HA.out]
    rintro e w1 ⟨rfl, g1⟩
    have hb1 := hbel.trans (g1.mono hbel.size)
    have B1 := B0.out.keep g1
    have D1 := D0.out.keep g1
    clear g1 hbel B0 D0
    obtain ⟨c0, c1, c2, f0, f1', f2', lt⟩ := B1
    obtain ⟨n0, n1, n2, m0, m1, m2, lt2⟩ := D1
    go_wp2_with fail
    refine bodyPost_ret (v := .tuple #[ev 0 0 ⟨#[]⟩, .string ⟨#[]⟩, .int .i64 2]) (by simp [results, Try.results23, go_sem, c0, c1, c2]) rfl ⟨rfl, ?_⟩
    exact ((hb1.setCell (Nat.le_refl _) _).setCell (Nat.le_refl _) _).setCell (Nat.le_refl _) _
  · have hse : s.size = (putL (body.length : Int)).length + (body.length + rest.length) := by
      rw [← toList_length, he, List.length_append, List.length_append]
    have HA := Lib.hid hA
    clear hA
    by_cases h4 : rest.length < 4
    · have hRs1 : ((str rest).size : Int) < 4 := by rw [str_size]; omega
      clear hf h4 he hse hib
      go_enter Try.func23, Try.ntmps23
      go_wp2_with fail
      refine (ref_take_text_walk s (s.size : Int) _ hsm).mono ?_
      rw [HA.out]
      rintro e w1 ⟨rfl, g1⟩
      have hb1 := hbel.trans (g1.mono hbel.size)
      have B1 := B0.out.keep g1
      have D1 := D0.out.keep g1
      clear g1 hbel B0 D0
      obtain ⟨c0, c1, c2, f0, f1', f2', lt⟩ := B1
      obtain ⟨n0, n1, n2, m0, m1, m2, lt2⟩ := D1
      go_wp2_with fail
      refine bodyPost_ret (v := .tuple #[ev 0 0 ⟨#[]⟩, .string ⟨#[]⟩, .int .i64 2]) (by simp [results, Try.results23, go_sem, c0, c1, c2]) rfl ⟨rfl, ?_⟩
      exact ((hb1.setCell (Nat.le_refl _) _).setCell (Nat.le_refl _) _).setCell (Nat.le_refl _) _
    · have hRs1 : ¬ ((str rest).size : Int) < 4 := by rw [str_size]; omega
      have hbz : (str body).size ≤ maxLen := by rw [str_size]; unfold maxLen; omega
      have HBZ := Lib.hid hbz
      clear hbz
      rcases takeA_cases (str body) with hT1 | ⟨b, mo, hT1, hi1, he1⟩
      · have HT1 := Lib.hid hT1
        have HT2 := Lib.hid (show takeA (⟨#[]⟩ : ByteArray) = (0, [], 2) by decide +kernel)
        have HBZ2 := Lib.hid (show (⟨#[]⟩ : ByteArray).size ≤ maxLen by unfold maxLen; decide)
        clear hf he hse hib hT1
        go_enter Try.func23, Try.ntmps23
        go_wp2_with fail
        refine (ref_take_text_walk s (s.size : Int) _ hsm).mono ?_
        rw [HA.out]
        rintro e w1 ⟨rfl, g1⟩
        have hb1 := hbel.trans (g1.mono hbel.size)
        have B1 := B0.out.keep g1
        have D1 := D0.out.keep g1
        clear g1 hbel B0 D0
        go_wp2_with fail
        refine (ref_take_walk (str body) _ HBZ.out).mono ?_
        rw [HT1.out]
        rintro e w2 ⟨rfl, g2⟩
        have hb2 := hb1.trans (g2.mono hb1.size)
        have B2 := B1.keep g2
        have D2 := D1.keep g2
        clear g2 hb1 B1 D1
        go_wp2_with fail
        refine (ref_take_walk _ _ HBZ2.out).mono ?_
        rw [HT2.out]
        rintro e w3 ⟨rfl, g3⟩
        have hb3 := hb2.trans (g3.mono hb2.size)
        have B3 := B2.keep g3
        have D3 := D2.keep g3
        clear g3 hb2 B2 D2
        obtain ⟨c0, c1, c2, f0, f1', f2', lt⟩ := B3
        obtain ⟨n0, n1, n2, m0, m1, m2, lt2⟩ := D3
        go_wp2_with fail
        refine bodyPost_ret (v := .tuple #[ev 0 0 ⟨#[]⟩, .string ⟨#[]⟩, .int .i64 2]) (by simp [results, Try.results23, go_sem, c0, c1, c2]) rfl ⟨rfl, ?_⟩
        exact ((hb3.setCell (Nat.le_refl _) _).setCell (Nat.le_refl _) _).setCell (Nat.le_refl _) _
      · rw [str_toList] at he1
        have HT1 := Lib.hid hT1
        have hbz2 : (str mo).size ≤ maxLen := by
          have := congrArg List.length he1
          rw [List.length_append] at this
          rw [str_size]; unfold maxLen; omega
        have HBZ2 := Lib.hid hbz2
        clear hT1 hbz2
        rcases takeA_cases (str mo) with hT2 | ⟨n, t, hT2, hi2, he2⟩
        · have HT2 := Lib.hid hT2
          clear hf he hse hib hT2 he1
          go_enter Try.func23, Try.ntmps23
          go_wp2_with fail
          refine (ref_take_text_walk s (s.size : Int) _ hsm).mono ?_
          rw [HA.out]
          rintro e w1 ⟨rfl, g1⟩
          have hb1 := hbel.trans (g1.mono hbel.size)
          have B1 := B0.out.keep g1
          have D1 := D0.out.keep g1
          clear g1 hbel B0 D0
          go_wp2_with fail
          refine (ref_take_walk (str body) _ HBZ.out).mono ?_
          rw [HT1.out]
          rintro e w2 ⟨rfl, g2⟩
          have hb2 := hb1.trans (g2.mono hb1.size)
          have B2 := B1.keep g2
          have D2 := D1.keep g2
          clear g2 hb1 B1 D1
          go_wp2_with fail
          refine (ref_take_walk _ _ HBZ2.out).mono ?_
          rw [HT2.out]
          rintro e w3 ⟨rfl, g3⟩
          have hb3 := hb2.trans (g3.mono hb2.size)
          have B3 := B2.keep g3
          have D3 := D2.keep g3
          clear g3 hb2 B2 D2
          obtain ⟨c0, c1, c2, f0, f1', f2', lt⟩ := B3
          obtain ⟨n0, n1, n2, m0, m1, m2, lt2⟩ := D3
          go_wp2_with fail
          refine bodyPost_ret (v := .tuple #[ev 0 0 ⟨#[]⟩, .string ⟨#[]⟩, .int .i64 2]) (by simp [results, Try.results23, go_sem, c0, c1, c2]) rfl ⟨rfl, ?_⟩
          exact ((hb3.setCell (Nat.le_refl _) _).setCell (Nat.le_refl _) _).setCell (Nat.le_refl _) _
        · rw [str_toList] at he2
          have HT2 := Lib.hid hT2
          clear hT2
          have hk : (s.size : Int) - ((str rest).size : Int) + 4 = ((s.size - (rest.length - 4) : Nat) : Int) := by rw [str_size]; omega
          have hk0 : 0 ≤ (s.size : Int) - ((str rest).size : Int) := by rw [str_size]; omega
          have hkl : s.size - (rest.length - 4) ≤ s.size := by omega
          obtain ⟨k, hkk⟩ : ∃ k, k = s.size - (rest.length - 4) := ⟨_, rfl⟩
          rw [← hkk] at hk hkl
          by_cases hm : MayE b n t
          · have HM := Lib.hid (show MayE b n (str t).data.toList by rw [str_toList]; exact hm)
            have hne := noFr_of (k := k) hf hm
            have hq : ((str (frameL b n t)).toList == (s.extract 0 k).toList) = false := bytes_ne (fun h => hne (by rw [← str_take] at h; exact str_inj h))
            have hL := fun w => ref_flay_yes b n (str t) w HM.out
            rw [str_toList] at hL
            have HL := Lib.hid hL
            clear hf he hse hib he1 he2 hm hkk hne hL
            generalize frameL b n t = F at *
            go_enter Try.func23, Try.ntmps23
            go_wp2_with fail
            refine (ref_take_text_walk s (s.size : Int) _ hsm).mono ?_
            rw [HA.out]
            rintro e w1 ⟨rfl, g1⟩
            have hb1 := hbel.trans (g1.mono hbel.size)
            have B1 := B0.out.keep g1
            have D1 := D0.out.keep g1
            clear g1 hbel B0 D0
            go_wp2_with fail
            refine (ref_take_walk (str body) _ HBZ.out).mono ?_
            rw [HT1.out]
            rintro e w2 ⟨rfl, g2⟩
            have hb2 := hb1.trans (g2.mono hb1.size)
            have B2 := B1.keep g2
            have D2 := D1.keep g2
            clear g2 hb1 B1 D1
            go_wp2_with fail
            refine (ref_take_walk _ _ HBZ2.out).mono ?_
            rw [HT2.out]
            rintro e w3 ⟨rfl, g3⟩
            have hb3 := hb2.trans (g3.mono hb2.size)
            have B3 := B2.keep g3
            have D3 := D2.keep g3
            clear g3 hb2 B2 D2
            have hal : Below w3.heap.size w3 ((w3.alloc (.cells #[.int .i64 b, .int .i64 n, .string (str t)] 31))) := ((Below.refl _ _).alloc (Nat.le_refl _) _)
            have B4 := B3.keep hal
            have D4 := D3.keep hal
            have hb4 := hb3.trans (hal.mono hb3.size)
            clear B3 D3 hb3 hal
            go_wp2_with fail
            refine (HL.out _).mono ?_
            rintro e w5 ⟨rfl, g5⟩
            have B5 := B4.keep g5
            have D5 := D4.keep g5
            have hb5 := hb4.trans (g5.mono hb4.size)
            clear B4 D4 hb4 g5
            obtain ⟨c0, c1, c2, f0, f1', f2', lt⟩ := B5
            obtain ⟨n0, n1, n2, m0, m1, m2, lt2⟩ := D5
            go_wp2_with fail
            refine bodyPost_ret (v := .tuple #[ev 0 0 ⟨#[]⟩, .string ⟨#[]⟩, .int .i64 2]) (by simp [results, Try.results23, go_sem, c0, c1, c2]) rfl ⟨rfl, ?_⟩
            exact ((hb5.setCell (Nat.le_refl _) _).setCell (Nat.le_refl _) _).setCell (Nat.le_refl _) _
          · have HM := Lib.hid (show ¬ MayE b n (str t).data.toList by rw [str_toList]; exact hm)
            have HL := Lib.hid (fun w => ref_flay_no b n (str t) w HM.out)
            clear hf he hse hib he1 he2 hm hkk
            go_enter Try.func23, Try.ntmps23
            go_wp2_with fail
            refine (ref_take_text_walk s (s.size : Int) _ hsm).mono ?_
            rw [HA.out]
            rintro e w1 ⟨rfl, g1⟩
            have hb1 := hbel.trans (g1.mono hbel.size)
            have B1 := B0.out.keep g1
            have D1 := D0.out.keep g1
            clear g1 hbel B0 D0
            go_wp2_with fail
            refine (ref_take_walk (str body) _ HBZ.out).mono ?_
            rw [HT1.out]
            rintro e w2 ⟨rfl, g2⟩
            have hb2 := hb1.trans (g2.mono hb1.size)
            have B2 := B1.keep g2
            have D2 := D1.keep g2
            clear g2 hb1 B1 D1
            go_wp2_with fail
            refine (ref_take_walk _ _ HBZ2.out).mono ?_
            rw [HT2.out]
            rintro e w3 ⟨rfl, g3⟩
            have hb3 := hb2.trans (g3.mono hb2.size)
            have B3 := B2.keep g3
            have D3 := D2.keep g3
            clear g3 hb2 B2 D2
            have hal : Below w3.heap.size w3 ((w3.alloc (.cells #[.int .i64 b, .int .i64 n, .string (str t)] 31))) := ((Below.refl _ _).alloc (Nat.le_refl _) _)
            have B4 := B3.keep hal
            have D4 := D3.keep hal
            have hb4 := hb3.trans (hal.mono hb3.size)
            clear B3 D3 hb3 hal
            go_wp2_with fail
            refine (HL.out _).mono ?_
            rintro e w5 ⟨rfl, g5⟩
            have B5 := B4.keep g5
            have D5 := D4.keep g5
            have hb5 := hb4.trans (g5.mono hb4.size)
            clear B4 D4 hb4 g5
            obtain ⟨c0, c1, c2, f0, f1', f2', lt⟩ := B5
            obtain ⟨n0, n1, n2, m0, m1, m2, lt2⟩ := D5
            go_wp2_with fail
            refine bodyPost_ret (v := .tuple #[ev 0 0 ⟨#[]⟩, .string ⟨#[]⟩, .int .i64 2]) (by simp [results, Try.results23, go_sem, c0, c1, c2]) rfl ⟨rfl, ?_⟩
            exact ((hb5.setCell (Nat.le_refl _) _).setCell (Nat.le_refl _) _).setCell (Nat.le_refl _) _
end Go.Proofs.Yteckddlcecleaaa
