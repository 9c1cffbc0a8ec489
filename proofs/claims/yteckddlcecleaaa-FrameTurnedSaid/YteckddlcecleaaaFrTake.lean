/- The walk of frame.Take. -/
import Derived.Test.YteckddlcecleaaaFrLay
import Derived.Test.YteckddlcecleaaaTakeAll
import Derived.Test.YteckddlcecleaaaUnseal
import Derived.BigRegion
namespace Go.Proofs.Yteckddlcecleaaa
open Go.RowKit Vm Cm Fm
set_option linter.unusedVariables false

/-- Three cells of a block that may be written. -/
structure Box3 (w : World) (g : Nat) (x y z : Value) : Prop where
  c0 : w.cell? ⟨g, 0, none⟩ = some x
  c1 : w.cell? ⟨g, 1, none⟩ = some y
  c2 : w.cell? ⟨g, 2, none⟩ = some z
  f0 : w.frozen? ⟨g, 0, none⟩ = false
  f1 : w.frozen? ⟨g, 1, none⟩ = false
  f2 : w.frozen? ⟨g, 2, none⟩ = false
  lt : g < w.heap.size
theorem Box3.start (w : World) (x y z : Value) (T : TypeId) : Box3 (w.alloc (.cells #[x, y, z] T)) w.heap.size x y z := by
  refine ⟨?_, ?_, ?_, ?_, ?_, ?_, by simp⟩
  all_goals first
    | (rw [World.cell?_alloc_at _ _ _ _ rfl]; rfl)
    | (rw [World.frozen?_alloc_at _ _ _ _ rfl])
theorem Box3.keep {w w' : World} {g : Nat} {x y z : Value} (h : Box3 w g x y z) (hb : Below w.heap.size w w') : Box3 w' g x y z := by
  obtain ⟨c0, c1, c2, f0, f1, f2, lt⟩ := h
  exact ⟨(hb.cell (by exact lt)).trans c0, (hb.cell (by exact lt)).trans c1, (hb.cell (by exact lt)).trans c2, (hb.frozen (by exact lt)).trans f0, (hb.frozen (by exact lt)).trans f1, (hb.frozen (by exact lt)).trans f2, Nat.lt_of_lt_of_le lt hb.size⟩
theorem Box3.drew {w : World} {g : Nat} {x y z : Value} (h : Box3 w g x y z) (n : Nat) : Box3 (w.drewN n) g x y z := h.keep (below_drewN _ _ _)

/-- The parts of a text that begins with a frame. -/
theorem frame_parts {s : ByteArray} {b n : Int} {t r : List UInt8} (hf : Fr s.data.toList b n t r) (hs : s.size ≤ 140737488355328) :
    textA s 65544 = (bodyL b n t, four (sum (headL (bodyL b n t))) ++ r, 0) ∧ s.size = (frameL b n t).length + r.length ∧ s.extract 0 (frameL b n t).length = str (frameL b n t) := by
  obtain ⟨hm, he⟩ := hf
  have hl := body_len hm
  have e : s.data.toList = putL ((bodyL b n t).length : Int) ++ (bodyL b n t ++ (four (sum (headL (bodyL b n t))) ++ r)) := by
    rw [he]; unfold frameL seal' headL; simp only [List.append_assoc]
  refine ⟨textA_put s _ _ _ (by omega) (by omega) e, ?_, ?_⟩
  · rw [← toList_length, he, List.length_append]
  · rw [← str_take, he, List.take_left]

set_option maxRecDepth 100000 in
set_option maxHeartbeats 4000000 in
theorem ftake_yes (s : ByteArray) (b n : Int) (t r : List UInt8) (w : World) (hs : s.size ≤ 140737488355328) (hf : Fr s.data.toList b n t r) :
    Calls Try.prog 22 #[.string s] w fun e w' => e = .returned (.tuple #[ev b n (str t), .string (str r), .int .i64 0]) ∧ Below w.heap.size w w' := by
  have hsm : s.size ≤ maxLen := by unfold maxLen; omega
  obtain ⟨hA, hsz, hex⟩ := frame_parts hf hs
  have hm := hf.1
  have hbl := body_len hm
  have hi := hm.i64
  have hU : unsealA (str (frameL b n t)).data.toList = (headL (bodyL b n t), 0) := by rw [str_toList]; exact unseal_seal _
  have hT : takeN 2 (str (bodyL b n t)).data.toList = some ([b, n], t) := by rw [str_toList]; exact takeN_body hi.1 hi.2
  have hfl := frameL_pos b n t
  have hfz : (str (frameL b n t)).size ≤ maxLen := by rw [str_size]; unfold maxLen; omega
  have hbz : (str (bodyL b n t)).size ≤ 140737488355328 := by rw [str_size]; omega
  have HM := Lib.hid (show MayE b n (str t).data.toList by rw [str_toList]; exact hm)
  obtain ⟨R, hR⟩ : ∃ R, R = four (sum (headL (bodyL b n t))) ++ r := ⟨_, rfl⟩
  have hR4 : (str R).extract 4 (str R).size = str r := by
    rw [← str_drop, str_toList, hR]; congr 1
  have hRs : (str R).size = r.length + 4 := by rw [str_size, hR, List.length_append, four_length]; omega
  rw [← hR] at hA
  have hRs1 : ¬ ((str R).size : Int) < 4 := by omega
  have hRs2 : 4 ≤ (str R).size := by omega
  have hRs3 : (str R).size ≤ 140737488355328 := by omega
  have hk : (s.size : Int) - ((str r).size : Int) = ((frameL b n t).length : Int) := by rw [str_size]; omega
  have hkl : (frameL b n t).length ≤ s.size := by omega
  have HA := Lib.hid hA
  have HU := Lib.hid hU
  have HT := Lib.hid hT
  have HI := Lib.hid hi
  have B0 := Lib.hid (Box3.start w (.int .i64 0) (.int .i64 0) (.string ⟨#[]⟩) 31)
  have hbel : Below w.heap.size w (w.alloc (.cells #[.int .i64 0, .int .i64 0, .string ⟨#[]⟩] 31)) := (Below.refl _ _).alloc (Nat.le_refl _) _
  have HFZ := Lib.hid hfz
  have HBZ := Lib.hid hbz
  clear hA hU hT hi hm hf hbl hR hsz hRs hfz hbz hfl
  generalize frameL b n t = F at *
  generalize bodyL b n t = Bd at *
  go_enter Try.func22, Try.ntmps22
  go_wp2_with fail
  refine (take_text_walk s 65544 _ hsm).mono ?_
  rw [HA.out]
  rintro e w1 ⟨rfl, d1⟩
  go_wp2_with fail
  have hb1 := d1.below w.heap.size
  have hb1' := hbel.trans hb1
  have B1 := B0.out.keep (d1.below _)
  clear d1 hb1 hbel B0
  refine (unseal_walk (str F) _ HFZ.out).mono ?_
  rw [HU.out]
  rintro e w2 ⟨rfl, g2⟩
  have hb2 := hb1'.trans (g2.mono hb1'.size)
  have B2 := B1.keep g2
  clear g2 B1 hb1'
  go_wp2_with fail
  refine (take_all_at (str Bd) 2 2 rfl [b, n] t _ HBZ.out (by omega) HT.out).mono ?_
  rintro e w3 ⟨a, c, rfl, o3, g3⟩
  have hb3 := hb2.trans (g3.mono hb2.size)
  have B3 := B2.keep g3
  have sl := own_sl o3
  obtain ⟨b1, f1, rfl, l1, k1⟩ := sl.at (j := 0) (by simp [i64s])
  obtain ⟨b2, f2, e2, l2, k2⟩ := sl.at (j := 1) (by simp [i64s])
  obtain ⟨rfl, rfl⟩ : b1 = b2 ∧ f1 = f2 := by simpa using e2
  clear g3 B2 hb2 o3 sl e2
  simp [i64s] at k1 k2
  go_wp2_with fail
  have N1 := (Box3.start w3 (.int .i64 b) (.int .i64 n) (.string (str t)) 31).drew 1
  have hal : Below w3.heap.size w3 ((w3.alloc (.cells #[.int .i64 b, .int .i64 n, .string (str t)] 31)).drewN 1) := ((Below.refl _ _).alloc (Nat.le_refl _) _).trans (below_drewN _ _ _)
  have B4 := B3.keep hal
  have hb4 := hb3.trans (hal.mono hb3.size)
  obtain ⟨c0, c1, c2, f0, f1', f2', lt⟩ := B3
  go_region
  all_goals
    go_wp2_with fail
    refine (fcheck_yes b n (str t) _ HM.out).mono ?_
    rintro e w5 ⟨rfl, g5⟩
    have B5 := B4.keep g5
    have N5 := N1.keep g5
    have hb5 := hb4.trans (g5.mono hb4.size)
    clear B4 N1 hb4 g5 hal c0 c1 c2 f0 f1' f2' lt
    obtain ⟨c0, c1, c2, f0, f1', f2', lt⟩ := B5
    obtain ⟨n0, n1, n2, m0, m1, m2, lt2⟩ := N5
    go_wp2_with fail
    refine bodyPost_ret (v := .tuple #[ev b n (str t), .string (str r), .int .i64 0]) (by simp [results, Try.results22, go_sem, c0, c1, c2]) rfl ⟨rfl, ?_⟩
    exact ((hb5.setCell (Nat.le_refl _) _).setCell (Nat.le_refl _) _).setCell (Nat.le_refl _) _

theorem textA_cases (s : ByteArray) (most : Int) : textA s most = ([], [], 2) ∨ ∃ body rest, textA s most = (body, rest, 0) ∧ I64 (body.length : Int) ∧ (body.length : Int) ≤ most ∧ s.data.toList = putL (body.length : Int) ++ (body ++ rest) := by
  unfold textA
  cases h : takeL s.data.toList with
  | none => exact .inl rfl
  | some p =>
    obtain ⟨n, r⟩ := p
    obtain ⟨i1, e1⟩ := takeL_some h
    simp only
    by_cases hc : n < 0 ∨ most < n ∨ (r.length : Int) < n
    · rw [if_pos hc]; exact .inl rfl
    · rw [if_neg hc]
      obtain ⟨k, rfl⟩ := Int.eq_ofNat_of_zero_le (show 0 ≤ n by omega)
      have hl : (r.take ((k : Int).toNat)).length = k := by rw [List.length_take]; omega
      refine .inr ⟨_, _, rfl, ?_, ?_, ?_⟩
      · rw [hl]; exact i1
      · rw [hl]; omega
      · rw [hl, List.take_append_drop]; exact e1

set_option maxRecDepth 100000 in
set_option maxHeartbeats 4000000 in
theorem ftake_no (s : ByteArray) (w : World) (hs : s.size ≤ 140737488355328) (hf : NoFr s.data.toList) :
    Calls Try.prog 22 #[.string s] w fun e w' => e = .returned (.tuple #[ev 0 0 ⟨#[]⟩, .string ⟨#[]⟩, .int .i64 2]) ∧ Below w.heap.size w w' := by
  have hsm : s.size ≤ maxLen := by unfold maxLen; omega
  have B0 := Lib.hid (Box3.start w (.int .i64 0) (.int .i64 0) (.string ⟨#[]⟩) 31)
  have hbel : Below w.heap.size w (w.alloc (.cells #[.int .i64 0, .int .i64 0, .string ⟨#[]⟩] 31)) := (Below.refl _ _).alloc (Nat.le_refl _) _
  have hs0 : str [] = ⟨#[]⟩ := rfl
  rcases textA_cases s 65544 with hA | ⟨body, rest, hA, hib, hbl, he⟩
  · have HA := Lib.hid hA
    clear hA hf
    go_enter Try.func22, Try.ntmps22
    go_wp2_with fail
    refine (take_text_walk s 65544 _ hsm).mono ?_
    rw [HA.out]
    rintro e w1 ⟨rfl, d1⟩
    have hb1' := hbel.trans (d1.below w.heap.size)
    obtain ⟨c0, c1, c2, f0, f1', f2', lt⟩ := B0.out.keep (d1.below _)
    clear d1 hbel B0
    go_wp2_with fail
    refine bodyPost_ret (v := .tuple #[ev 0 0 ⟨#[]⟩, .string ⟨#[]⟩, .int .i64 2]) (by simp [results, Try.results22, go_sem, c0, c1, c2]) rfl ⟨rfl, ?_⟩
    exact ((hb1'.setCell (Nat.le_refl _) _).setCell (Nat.le_refl _) _).setCell (Nat.le_refl _) _
  · have hse : s.size = (putL (body.length : Int)).length + (body.length + rest.length) := by
      rw [← toList_length, he, List.length_append, List.length_append]
    have HA := Lib.hid hA
    clear hA
    by_cases h4 : rest.length < 4
    · have hRs1 : ((str rest).size : Int) < 4 := by rw [str_size]; omega
      clear hf h4 he hse hib
      go_enter Try.func22, Try.ntmps22
      go_wp2_with fail
      refine (take_text_walk s 65544 _ hsm).mono ?_
      rw [HA.out]
      rintro e w1 ⟨rfl, d1⟩
      have hb1' := hbel.trans (d1.below w.heap.size)
      obtain ⟨c0, c1, c2, f0, f1', f2', lt⟩ := B0.out.keep (d1.below _)
      clear d1 hbel B0
      go_wp2_with fail
      refine bodyPost_ret (v := .tuple #[ev 0 0 ⟨#[]⟩, .string ⟨#[]⟩, .int .i64 2]) (by simp [results, Try.results22, go_sem, c0, c1, c2]) rfl ⟨rfl, ?_⟩
      exact ((hb1'.setCell (Nat.le_refl _) _).setCell (Nat.le_refl _) _).setCell (Nat.le_refl _) _
    · have hRs1 : ¬ ((str rest).size : Int) < 4 := by rw [str_size]; omega
      have hRs2 : 4 ≤ (str rest).size := by rw [str_size]; omega
      have hRs3 : (str rest).size ≤ 140737488355328 := by rw [str_size]; omega
      have hR4 : (str rest).extract 4 (str rest).size = str (rest.drop 4) := by rw [← str_drop, str_toList]
      obtain ⟨k, hk⟩ : ∃ k, s.size = k + (rest.length - 4) := ⟨s.size - (rest.length - 4), by omega⟩
      have hkk : (s.size : Int) - ((str (rest.drop 4)).size : Int) = (k : Int) := by rw [str_size, List.length_drop]; omega
      have hkl : k ≤ s.size := by omega
      have hUz : (s.extract 0 k).size ≤ maxLen := by rw [← str_take, str_size, List.length_take]; unfold maxLen; omega
      have hUd : (s.extract 0 k).data.toList = s.data.toList.take (s.data.toList.length - (rest.length - 4)) := by
        rw [← str_take, str_toList, toList_length, show s.size - (rest.length - 4) = k from by omega]
      have HUZ := Lib.hid hUz
      have hbz : (str body).size ≤ 140737488355328 := by rw [str_size]; omega
      have HBZ := Lib.hid hbz
      rcases unseal_cases (s.extract 0 k).data.toList with hu | ⟨p, hu, hp⟩
      · have HU := Lib.hid hu
        clear hf he hse hib hk hUz hUd hu hbz
        go_enter Try.func22, Try.ntmps22
        go_wp2_with fail
        refine (take_text_walk s 65544 _ hsm).mono ?_
        rw [HA.out]
        rintro e w1 ⟨rfl, d1⟩
        have hb1' := hbel.trans (d1.below w.heap.size)
        have B1 := B0.out.keep (d1.below _)
        clear d1 hbel B0
        go_wp2_with fail
        refine (unseal_walk _ _ HUZ.out).mono ?_
        rw [HU.out]
        rintro e w2 ⟨rfl, g2⟩
        have hb2 := hb1'.trans (g2.mono hb1'.size)
        obtain ⟨c0, c1, c2, f0, f1', f2', lt⟩ := B1.keep g2
        clear g2 B1 hb1'
        go_wp2_with fail
        refine bodyPost_ret (v := .tuple #[ev 0 0 ⟨#[]⟩, .string ⟨#[]⟩, .int .i64 2]) (by simp [results, Try.results22, go_sem, c0, c1, c2]) rfl ⟨rfl, ?_⟩
        exact ((hb2.setCell (Nat.le_refl _) _).setCell (Nat.le_refl _) _).setCell (Nat.le_refl _) _
      · have HU := Lib.hid hu
        rw [hUd] at hp
        have hcase : takeN 2 body = none ∨ ∃ b n t, takeN 2 body = some ([b, n], t) ∧ ¬ MayE b n t := by
          cases hT : takeN 2 body with
          | none => exact .inl rfl
          | some q =>
            obtain ⟨vs, t⟩ := q
            obtain ⟨b, n, rfl, _, _, _⟩ := takeN_two hT
            exact .inr ⟨b, n, t, rfl, fun hm => hf _ _ _ _ (frame_of hib he (by omega) hp hT hm)⟩
        clear hf he hse hib hk hUz hUd hu hbz hp
        rcases hcase with hT | ⟨b, n, t, hT, hm⟩
        · have HT := Lib.hid (show takeN 2 (str body).data.toList = none by rw [str_toList]; exact hT)
          clear hT
          go_enter Try.func22, Try.ntmps22
          go_wp2_with fail
          refine (take_text_walk s 65544 _ hsm).mono ?_
          rw [HA.out]
          rintro e w1 ⟨rfl, d1⟩
          have hb1' := hbel.trans (d1.below w.heap.size)
          have B1 := B0.out.keep (d1.below _)
          clear d1 hbel B0
          go_wp2_with fail
          refine (unseal_walk _ _ HUZ.out).mono ?_
          rw [HU.out]
          rintro e w2 ⟨rfl, g2⟩
          have hb2 := hb1'.trans (g2.mono hb1'.size)
          have B2 := B1.keep g2
          clear g2 B1 hb1'
          go_wp2_with fail
          refine (take_none_at (str body) 2 2 rfl _ HBZ.out (by omega) HT.out).mono ?_
          rintro e w3 ⟨rfl, g3⟩
          have hb3 := hb2.trans (g3.mono hb2.size)
          obtain ⟨c0, c1, c2, f0, f1', f2', lt⟩ := B2.keep g3
          clear g3 B2 hb2
          go_wp2_with fail
          refine bodyPost_ret (v := .tuple #[ev 0 0 ⟨#[]⟩, .string ⟨#[]⟩, .int .i64 2]) (by simp [results, Try.results22, go_sem, c0, c1, c2]) rfl ⟨rfl, ?_⟩
          exact ((hb3.setCell (Nat.le_refl _) _).setCell (Nat.le_refl _) _).setCell (Nat.le_refl _) _
        · have HT := Lib.hid (show takeN 2 (str body).data.toList = some ([b, n], t) by rw [str_toList]; exact hT)
          have HM := Lib.hid (show ¬ MayE b n (str t).data.toList by rw [str_toList]; exact hm)
          clear hT hm
          go_enter Try.func22, Try.ntmps22
          go_wp2_with fail
          refine (take_text_walk s 65544 _ hsm).mono ?_
          rw [HA.out]
          rintro e w1 ⟨rfl, d1⟩
          have hb1' := hbel.trans (d1.below w.heap.size)
          have B1 := B0.out.keep (d1.below _)
          clear d1 hbel B0
          go_wp2_with fail
          refine (unseal_walk _ _ HUZ.out).mono ?_
          rw [HU.out]
          rintro e w2 ⟨rfl, g2⟩
          have hb2 := hb1'.trans (g2.mono hb1'.size)
          have B2 := B1.keep g2
          clear g2 B1 hb1'
          go_wp2_with fail
          refine (take_all_at (str body) 2 2 rfl [b, n] t _ HBZ.out (by omega) HT.out).mono ?_
          rintro e w3 ⟨a, c, rfl, o3, g3⟩
          have hb3 := hb2.trans (g3.mono hb2.size)
          have B3 := B2.keep g3
          have sl := own_sl o3
          obtain ⟨b1, f1, rfl, l1, k1⟩ := sl.at (j := 0) (by simp [i64s])
          obtain ⟨b2, f2, e2, l2, k2⟩ := sl.at (j := 1) (by simp [i64s])
          obtain ⟨rfl, rfl⟩ : b1 = b2 ∧ f1 = f2 := by simpa using e2
          clear g3 B2 hb2 o3 sl e2
          simp [i64s] at k1 k2
          go_wp2_with fail
          have N1 := (Box3.start w3 (.int .i64 b) (.int .i64 n) (.string (str t)) 31).drew 1
          have hal : Below w3.heap.size w3 ((w3.alloc (.cells #[.int .i64 b, .int .i64 n, .string (str t)] 31)).drewN 1) := ((Below.refl _ _).alloc (Nat.le_refl _) _).trans (below_drewN _ _ _)
          have B4 := B3.keep hal
          have hb4 := hb3.trans (hal.mono hb3.size)
          obtain ⟨c0, c1, c2, f0, f1', f2', lt⟩ := B3
          go_region
          all_goals
            go_wp2_with fail
            refine (fcheck_no b n (str t) _ HM.out).mono ?_
            rintro e w5 ⟨rfl, g5⟩
            have B5 := B4.keep g5
            have hb5 := hb4.trans (g5.mono hb4.size)
            clear B4 N1 hb4 g5 hal c0 c1 c2 f0 f1' f2' lt
            obtain ⟨c0, c1, c2, f0, f1', f2', lt⟩ := B5
            go_wp2_with fail
            refine bodyPost_ret (v := .tuple #[ev 0 0 ⟨#[]⟩, .string ⟨#[]⟩, .int .i64 2]) (by simp [results, Try.results22, go_sem, c0, c1, c2]) rfl ⟨rfl, ?_⟩
            exact ((hb5.setCell (Nat.le_refl _) _).setCell (Nat.le_refl _) _).setCell (Nat.le_refl _) _
end Go.Proofs.Yteckddlcecleaaa
