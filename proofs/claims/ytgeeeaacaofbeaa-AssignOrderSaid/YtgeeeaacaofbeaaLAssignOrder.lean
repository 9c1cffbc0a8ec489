/- The walk of the statement AssignOrder of layer 9. -/
import Derived.Test.YtgeeeaacaofbeaaAsKit
namespace Go.Proofs.Ytgeeeaacaofbeaa
open Go.RowKit Vm As
set_option linter.unusedVariables false
set_option linter.unusedSimpArgs false

theorem i_one9 (x : Int) : ∀ u ∈ ([.int .i64 x] : List Value), u.oneCell' = true := fun v hv => by simp at hv; rw [hv]; rfl
/-- What lies in the turned row: what is behind place i, and nothing else. -/
def TwI (xs : List Int) (i : Nat) (D : List Int) : Prop := ∀ y, y ∈ D ↔ y ∈ xs.drop i
theorem tw_step {xs D : List Int} {i M : Nat} {y : Int} (h : TwI xs (i + 1) D) (hM : xs.length = M) (hi : i < M) (hy : xs.getD i 0 = y) : TwI xs i (D ++ [y] ++ [y]) := fun z => by
  have hl : i < xs.length := by omega
  rw [List.drop_eq_getElem_cons hl, show xs[i] = y from by rw [← hy]; simp [List.getD, hl]]
  simp only [List.mem_append, List.mem_singleton, List.mem_cons, List.not_mem_nil, or_false, h z]
  constructor
  · rintro ((h | h) | h)
    · exact .inr h
    · exact .inl h
    · exact .inl h
  · rintro (h | h)
    · exact .inr h
    · exact .inl (.inl h)
theorem memL_same {l l' : List Int} (h : ∀ x, 0 < x → (x ∈ l ↔ x ∈ l')) : memL l = memL l' := memIs_same (memL_is l) (memL_is l') h
set_option maxRecDepth 100000 in
set_option maxHeartbeats 16000000 in
theorem assignOrder_law (p : Int) (a1 : Option Addr) (len1 cap1 : Nat) (zs1 : List Int) (a2 : Option Addr) (len2 cap2 : Nat) (zs2 : List Int) (more : Int) (w : World) (hp0 : (Lit.int .i64 p).wf = true) (hr1 : IsRow .i64 w a1 len1 cap1 zs1) (hcap1 : cap1 * 8 ≤ 140737488351232) (hr2 : IsRow .i64 w a2 len2 cap2 zs2) (hcap2 : cap2 * 8 ≤ 140737488351232) (hm0 : (Lit.int .i64 more).wf = true) :
    Calls Try.prog 9 #[.int .i64 p, .slice a1 len1 cap1, .slice a2 len2 cap2, .int .i64 more] w fun e w' => e = .returned (.bool true) ∧ Below w.heap.size w w' := by
  obtain ⟨i7, hi7, hz70, hz71, hz72⟩ := info_parts info_i64
  obtain ⟨xs, hxn, hsx, hwx, hl1, hlc1⟩ := row_some hr1
  obtain ⟨os, hon, hso, hwo, hl2, hlc2⟩ := row_some hr2
  have C1 := Lib.hid (fun w => some_walk a1 len1 cap1 w hl1 hlc1)
  have C2 := Lib.hid (fun w => some_walk a2 len2 cap2 w hl2 hlc2)
  obtain ⟨M1, hM1⟩ : ∃ M, min len1 70 = M := ⟨_, rfl⟩
  obtain ⟨M2, hM2⟩ : ∃ M, min len2 70 = M := ⟨_, rfl⟩
  rw [hM1] at C1 hxn
  rw [hM2] at C2 hon
  have hM1b : M1 ≤ 70 := by omega
  have hM2b : M2 ≤ 70 := by omega
  have HX := Lib.hid hsx
  have HO := Lib.hid hso
  have HXl := Lib.hid hxn
  have ho := hon
  have HOS := Lib.hid hwo
  have HXW := Lib.hid hwx
  obtain ⟨R, hR⟩ : ∃ R, rangeF p xs = R := ⟨_, rfl⟩
  obtain ⟨S, hS⟩ : ∃ S, stickyF p xs os = S := ⟨_, rfl⟩
  obtain ⟨E, hE⟩ : ∃ E, errF p = E := ⟨_, rfl⟩
  have HRR := Lib.hid hR
  have HSS := Lib.hid hS
  have HEE := Lib.hid hE
  have hRl : R.length ≤ 64 := by rw [← hR]; exact rangeF_len p xs
  have hSl : S.length ≤ 64 := by rw [← hS]; exact stickyF_len p xs os
  have K1 := Lib.hid (fun w h => range_all p xs M1 a1 cap1 w hxn (by omega) h)
  have K3 := Lib.hid (fun w h h3 => sticky_all p xs os M1 M2 a1 a2 cap1 cap2 w hxn (by omega) hon (by omega) hwx hwo h h3)
  rw [hR, hE] at K1
  rw [hS, hE] at K3
  unfold OutPost at K1 K3
  have P1 := Lib.hid (fun a b c d w h1 h2 => same_all R a b c d w (by omega) h1 h2)
  have P2 := Lib.hid (fun a b c d w h1 h2 => same_all S a b c d w (by omega) h1 h2)
  clear hR hS hE hon hso hwo hwx hsx hr1 hr2 hM1 hM2 hl1 hl2 hlc1 hlc2 hxn
  go_enter Try.func9, Try.ntmps9
  go_wp2_with fail
  refine (C1.out _).mono ?_
  rintro e w0 ⟨rfl, rfl⟩
  go_wp2_with fail
  refine (C2.out _).mono ?_
  rintro e w0 ⟨rfl, rfl⟩
  clear C1 C2
  have hst : ∃ v : Value, IntKind.i64.wrap ((M1 : Int) - 1) = (M1 : Int) - 1 ∧ v = .int .i64 ((M1 : Int) - 1) := ⟨_, IntWalk.i64_in _ (by omega), rfl⟩
  have hws := hst.choose_spec.1
  clear hst
  go_wp2_with fail
  go_loopw [9, 10] (fun T J wr => ∃ (i : Nat) (D : List Int) (n : Nat) (a3 : Option Addr) (c3 : Nat), i ≤ M1 ∧ ((i = 0 ∧ J = .int .i64 (-1)) ∨ ∃ ip : Nat, i = ip + 1 ∧ J = .int .i64 ip) ∧ T = .slice a3 n c3 ∧ Hid (D.length = n) ∧ n + 2 * i ≤ 140 ∧ Hid (TwI xs i D) ∧ wr.ownsRow w.heap.size 3 1 (.slice a3 n c3) n (i64s D) ∧ Below w.heap.size w wr) (fun _ J _ => (intOf J + 1).toNat)
  case atStart =>
    refine ⟨M1, [], 0, none, 0, Nat.le_refl _, ?_, rfl, Lib.hid rfl, by omega, Lib.hid (fun y => by rw [List.drop_of_length_le (by rw [HXl.out]; exact Nat.le_refl _)]), World.ownsRow_nil _ _ _ _, Below.refl _ _⟩
    rcases Nat.eq_zero_or_pos M1 with h0 | h0
    · exact .inl ⟨h0, by rw [h0]; rfl⟩
    · exact .inr ⟨M1 - 1, by omega, by rw [show ((M1 : Int) - 1) = ((M1 - 1 : Nat) : Int) by omega]⟩
  case round =>
    obtain ⟨i, D, n, a3, c3, hiM, hJ, rfl, HDn, hn2, HD, own, hb⟩ := hrel
    rcases hJ with ⟨rfl, rfl⟩ | ⟨ip, rfl, rfl⟩
    · have hD0 : ∀ y, y ∈ D ↔ y ∈ xs := fun y => by have := HD.out y; rwa [List.drop_zero] at this
      by_cases hmo : more ≤ 0
      · have HDl := Lib.hid (show (D ++ [more]).length = n + 1 by rw [List.length_append, HDn.out]; rfl)
        have HDw := Lib.hid (show ∀ x ∈ (D ++ [more]), (Lit.int .i64 x).wf = true from fun x hx => by
            rcases List.mem_append.1 hx with h | h
            · exact HXW.out x ((hD0 x).1 h)
            · rw [List.mem_singleton.1 h]; exact hm0)
        have hml : memL (D ++ [more]) = memL xs := memL_same (fun x hx => by
          rw [List.mem_append, hD0 x]
          constructor
          · rintro (h | h)
            · exact h
            · have := List.mem_singleton.1 h; omega
          · exact .inl)
        have HDR := Lib.hid (show rangeF p (D ++ [more]) = rangeF p xs by unfold rangeF; rw [hml])
        have HDS := Lib.hid (show stickyF p (D ++ [more]) os = stickyF p xs os by unfold stickyF; rw [hml])
        clear hml
        have HO1 := Lib.hid (own.alloc (.cells #[.int .i64 more] 3))
        have HB1 := Lib.hid (hb.alloc hb.size (.cells #[.int .i64 more] 3))
        have hza := (balloc wr (.cells #[.int .i64 more] 3)).size
        have hbsz := hb.size
        clear own hD0
        go_wp2_with (at_builtin; refine wp_app2 rfl _ _ 22 rfl w.heap.size 3 i7 (.int .i64 0) 1 8 Try.underlying22 hi7 hz70 hz71 hz72 rfl (by decide) _ _ _ rfl HO1.out _ _ _ rfl [.int .i64 more] _ w rfl (sl_fresh _ [.int .i64 more] 3) (fun h => by cases h) (i_one9 _) ?da ?db ?dc HB1.out ?_)
        case da => unfold maxLen; omega
        case db => omega
        case dc => omega
        intro a4 c4 w4 o4 hbt f4
        have HT : Hid (Sl w4 w4.heap.size a4 (i64s (D ++ [more]))) := Lib.hid (by rw [i64s_snoc]; exact ownN_sl o4)
        clear o4 f4 HO1 HB1 hb hza hbsz
        have hzt := hbt.size
        have K2 := Lib.hid (fun w h => range_all p (D ++ [more]) (n + 1) a4 c4 w HDl.out (by omega) h)
        have K4 := Lib.hid (fun w h h3 => sticky_all p (D ++ [more]) os (n + 1) M2 a4 a2 c4 cap2 w HDl.out (by omega) ho (by omega) HDw.out HOS.out h h3)
        rw [HDR.out] at K2
        rw [HDS.out] at K4
        rw [HRR.out] at K2
        rw [HSS.out] at K4
        rw [HEE.out] at K2 K4
        unfold OutPost at K2 K4
        clear HDl HDw
        go_wp2_with fail
        refine (K1.out _ (Sl.grow (HX.out.below hbt (Nat.le_refl _)) hzt)).mono ?_
        rintro e w1 ⟨r1, k1, rfl, q1, s1, b1⟩
        have g1 := hbt.trans (b1.mono hzt)
        have T1 := Lib.hid (Sl.grow (HT.out.below b1 (Nat.le_refl _)) b1.size)
        have U1 := Lib.hid s1
        clear q1 s1 b1 HT
        go_wp2_with fail
        refine (K2.out _ T1.out).mono ?_
        rintro e w2 ⟨r2, k2, rfl, q2, s2, b2⟩
        have g2 := g1.trans (b2.mono g1.size)
        have T2 := Lib.hid (Sl.grow (T1.out.below b2 (Nat.le_refl _)) b2.size)
        have U2 := Lib.hid (Sl.grow (U1.out.below b2 (Nat.le_refl _)) b2.size)
        have V2 := Lib.hid s2
        clear q2 s2 b2 T1 U1
        go_wp2_with fail
        refine (K3.out _ (Sl.grow (HX.out.below g2 (Nat.le_refl _)) g2.size) (Sl.grow (HO.out.below g2 (Nat.le_refl _)) g2.size)).mono ?_
        rintro e w3 ⟨r3, k3, rfl, q3, s3, b3⟩
        have g3 := g2.trans (b3.mono g2.size)
        have T3 := Lib.hid (Sl.grow (T2.out.below b3 (Nat.le_refl _)) b3.size)
        have U3 := Lib.hid (Sl.grow (U2.out.below b3 (Nat.le_refl _)) b3.size)
        have V3 := Lib.hid (Sl.grow (V2.out.below b3 (Nat.le_refl _)) b3.size)
        have X3 := Lib.hid s3
        clear q3 s3 b3 T2 U2 V2
        go_wp2_with fail
        refine (K4.out _ T3.out (Sl.grow (HO.out.below g3 (Nat.le_refl _)) g3.size)).mono ?_
        rintro e w4 ⟨r4, k4, rfl, q4, s4, b4⟩
        have g4 := g3.trans (b4.mono g3.size)
        have U4 := Lib.hid (Sl.grow (U3.out.below b4 (Nat.le_refl _)) b4.size)
        have V4 := Lib.hid (Sl.grow (V3.out.below b4 (Nat.le_refl _)) b4.size)
        have X4 := Lib.hid (Sl.grow (X3.out.below b4 (Nat.le_refl _)) b4.size)
        have Y4 := Lib.hid s4
        clear q4 s4 b4 T3 U3 V3 X3
        go_wp2_with fail
        refine (P1.out _ _ _ _ _ U4.out V4.out).mono ?_
        rintro e w5 ⟨rfl, b5⟩
        have g5 := g4.trans (b5.mono g4.size)
        have X5 := Lib.hid (Sl.grow (X4.out.below b5 (Nat.le_refl _)) b5.size)
        have Y5 := Lib.hid (Sl.grow (Y4.out.below b5 (Nat.le_refl _)) b5.size)
        clear b5 U4 V4 X4 Y4
        go_wp2_with fail
        refine (P2.out _ _ _ _ _ X5.out Y5.out).mono ?_
        rintro e w6 ⟨rfl, b6⟩
        have g6 := g5.trans (b6.mono g5.size)
        clear b6 X5 Y5
        go_wp2_with fail
        refine (awake09_walk _).mono ?_
        rintro e w7 ⟨rfl, b7⟩
        have g7 := g6.trans (b7.mono g6.size)
        go_wp2_with fail
        go_ret
        exact ⟨rfl, g7⟩
      · have HDl := HDn
        have HDw := Lib.hid (show ∀ x ∈ D, (Lit.int .i64 x).wf = true from fun x hx => HXW.out x ((hD0 x).1 hx))
        have hml : memL D = memL xs := memL_same (fun x hx => hD0 x)
        have HDR := Lib.hid (show rangeF p D = rangeF p xs by unfold rangeF; rw [hml])
        have HDS := Lib.hid (show stickyF p D os = stickyF p xs os by unfold stickyF; rw [hml])
        clear hml
        have hbt := hb
        have HT : Hid (Sl wr wr.heap.size a3 (i64s D)) := Lib.hid (ownN_sl own)
        clear own hD0 hb
        have hzt := hbt.size
        have K2 := Lib.hid (fun w h => range_all p D n a3 c3 w HDl.out (by omega) h)
        have K4 := Lib.hid (fun w h h3 => sticky_all p D os n M2 a3 a2 c3 cap2 w HDl.out (by omega) ho (by omega) HDw.out HOS.out h h3)
        rw [HDR.out] at K2
        rw [HDS.out] at K4
        rw [HRR.out] at K2
        rw [HSS.out] at K4
        rw [HEE.out] at K2 K4
        unfold OutPost at K2 K4
        clear HDl HDw
        go_wp2_with fail
        refine (K1.out _ (Sl.grow (HX.out.below hbt (Nat.le_refl _)) hzt)).mono ?_
        rintro e w1 ⟨r1, k1, rfl, q1, s1, b1⟩
        have g1 := hbt.trans (b1.mono hzt)
        have T1 := Lib.hid (Sl.grow (HT.out.below b1 (Nat.le_refl _)) b1.size)
        have U1 := Lib.hid s1
        clear q1 s1 b1 HT
        go_wp2_with fail
        refine (K2.out _ T1.out).mono ?_
        rintro e w2 ⟨r2, k2, rfl, q2, s2, b2⟩
        have g2 := g1.trans (b2.mono g1.size)
        have T2 := Lib.hid (Sl.grow (T1.out.below b2 (Nat.le_refl _)) b2.size)
        have U2 := Lib.hid (Sl.grow (U1.out.below b2 (Nat.le_refl _)) b2.size)
        have V2 := Lib.hid s2
        clear q2 s2 b2 T1 U1
        go_wp2_with fail
        refine (K3.out _ (Sl.grow (HX.out.below g2 (Nat.le_refl _)) g2.size) (Sl.grow (HO.out.below g2 (Nat.le_refl _)) g2.size)).mono ?_
        rintro e w3 ⟨r3, k3, rfl, q3, s3, b3⟩
        have g3 := g2.trans (b3.mono g2.size)
        have T3 := Lib.hid (Sl.grow (T2.out.below b3 (Nat.le_refl _)) b3.size)
        have U3 := Lib.hid (Sl.grow (U2.out.below b3 (Nat.le_refl _)) b3.size)
        have V3 := Lib.hid (Sl.grow (V2.out.below b3 (Nat.le_refl _)) b3.size)
        have X3 := Lib.hid s3
        clear q3 s3 b3 T2 U2 V2
        go_wp2_with fail
        refine (K4.out _ T3.out (Sl.grow (HO.out.below g3 (Nat.le_refl _)) g3.size)).mono ?_
        rintro e w4 ⟨r4, k4, rfl, q4, s4, b4⟩
        have g4 := g3.trans (b4.mono g3.size)
        have U4 := Lib.hid (Sl.grow (U3.out.below b4 (Nat.le_refl _)) b4.size)
        have V4 := Lib.hid (Sl.grow (V3.out.below b4 (Nat.le_refl _)) b4.size)
        have X4 := Lib.hid (Sl.grow (X3.out.below b4 (Nat.le_refl _)) b4.size)
        have Y4 := Lib.hid s4
        clear q4 s4 b4 T3 U3 V3 X3
        go_wp2_with fail
        refine (P1.out _ _ _ _ _ U4.out V4.out).mono ?_
        rintro e w5 ⟨rfl, b5⟩
        have g5 := g4.trans (b5.mono g4.size)
        have X5 := Lib.hid (Sl.grow (X4.out.below b5 (Nat.le_refl _)) b5.size)
        have Y5 := Lib.hid (Sl.grow (Y4.out.below b5 (Nat.le_refl _)) b5.size)
        clear b5 U4 V4 X4 Y4
        go_wp2_with fail
        refine (P2.out _ _ _ _ _ X5.out Y5.out).mono ?_
        rintro e w6 ⟨rfl, b6⟩
        have g6 := g5.trans (b6.mono g5.size)
        clear b6 X5 Y5
        go_wp2_with fail
        refine (awake09_walk _).mono ?_
        rintro e w7 ⟨rfl, b7⟩
        have g7 := g6.trans (b7.mono g6.size)
        go_wp2_with fail
        go_ret
        exact ⟨rfl, g7⟩
    · obtain ⟨bx, ox, rfl, hbx, hxl⟩ := HX.out.ints (by rw [HXl.out]; omega)
      have HC := Lib.hid (show ∀ j, j < M1 → w.cell? ⟨bx, ox + j, none⟩ = some (.int .i64 (xs.getD j 0)) from fun j hj => hxl j (by rw [HXl.out]; exact hj))
      have hbz := hb.size
      have hx0 := HC.out ip (by omega)
      obtain ⟨y, hy⟩ : ∃ y, xs.getD ip 0 = y := ⟨_, rfl⟩
      rw [hy] at hx0
      have hipM : (ip : Int) < (M1 : Int) := by omega
      have hip0 : 0 ≤ (ip : Int) := by omega
      have r0 := (hb.cell (p := ⟨bx, ox + ip, none⟩) (by show bx < _; omega)).trans hx0
      have hzb : bx < wr.heap.size := by omega
      have HY := Lib.hid hy
      have HO1 := Lib.hid (own.alloc (.cells #[.int .i64 y] 3))
      have HB1 := Lib.hid (hb.alloc hb.size (.cells #[.int .i64 y] 3))
      have hza := (balloc wr (.cells #[.int .i64 y] 3)).size
      clear hy hx0 own hxl
      go_wp2_with (at_builtin; refine wp_app2 rfl _ _ 22 rfl w.heap.size 3 i7 (.int .i64 0) 1 8 Try.underlying22 hi7 hz70 hz71 hz72 rfl (by decide) _ _ _ rfl HO1.out _ _ _ rfl [.int .i64 y] _ w rfl (sl_fresh _ [.int .i64 y] 3) (fun h => by cases h) (i_one9 _) ?da ?db ?dc HB1.out ?_)
      case da => unfold maxLen; omega
      case db => omega
      case dc => omega
      intro a4 c4 w4 o4 b4 f4
      have hz4 := b4.size
      have r1 := (b4.cell (p := ⟨bx, ox + ip, none⟩) (by show bx < _; omega)).trans (HC.out ip (by omega))
      rw [HY.out] at r1
      have hzb4 : bx < w4.heap.size := by omega
      have HO2 := Lib.hid (o4.alloc (.cells #[.int .i64 y] 3))
      have HB2 := Lib.hid (b4.alloc b4.size (.cells #[.int .i64 y] 3))
      have hza4 := (balloc w4 (.cells #[.int .i64 y] 3)).size
      clear o4 b4 f4 HO1 HB1 r0 hza
      go_wp2_with (at_builtin; refine wp_app2 rfl _ _ 22 rfl w.heap.size 3 i7 (.int .i64 0) 1 8 Try.underlying22 hi7 hz70 hz71 hz72 rfl (by decide) _ _ _ rfl HO2.out _ _ _ rfl [.int .i64 y] _ w rfl (sl_fresh _ [.int .i64 y] 3) (fun h => by cases h) (i_one9 _) ?da ?db ?dc HB2.out ?_)
      case da => unfold maxLen; omega
      case db => omega
      case dc => omega
      intro a5 c5 w5 o5 b5 f5
      have HOo : Hid (w5.ownsRow w.heap.size 3 1 (.slice a5 (n + 1 + 1) c5) (n + 1 + 1) (i64s (D ++ [y] ++ [y]))) := Lib.hid (by rw [i64s_snoc, i64s_snoc]; simpa using o5)
      have HD2 := Lib.hid (tw_step HD.out HXl.out (show ip < M1 by omega) HY.out)
      clear o5 f5 HO2 HB2 r1 hza4
      have HDn2 := Lib.hid (show (D ++ [y] ++ [y]).length = n + 1 + 1 by rw [List.length_append, List.length_append, HDn.out]; rfl)
      rcases Nat.eq_zero_or_pos ip with h0 | h0
      · subst h0
        go_wp2_with fail
        go_roundw
        case rel => exact ⟨0, D ++ [y] ++ [y], n + 1 + 1, a5, c5, by omega, .inl ⟨rfl, by go_num⟩, rfl, HDn2, by omega, HD2, HOo.out, b5⟩
        case measure => simp [intOf]
      · obtain ⟨iq, hiq⟩ : ∃ iq, ip - 1 = iq := ⟨_, rfl⟩
        have hwq : IntKind.i64.wrap ((ip : Int) - 1) = (iq : Int) := by rw [IntWalk.i64_in _ (by omega)]; omega
        go_wp2_with fail
        go_roundw
        case rel => exact ⟨ip, D ++ [y] ++ [y], n + 1 + 1, a5, c5, by omega, .inr ⟨iq, by omega, by go_num⟩, rfl, HDn2, by omega, HD2, HOo.out, b5⟩
        case measure => simp [intOf]; omega
end Go.Proofs.Ytgeeeaacaofbeaa
