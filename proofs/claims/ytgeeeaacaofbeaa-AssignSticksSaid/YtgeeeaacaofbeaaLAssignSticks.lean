/- The walk of the statement AssignSticks of layer 9. -/
import Derived.Test.YtgeeeaacaofbeaaAsRSticky
namespace Go.Proofs.Ytgeeeaacaofbeaa
open Go.RowKit Vm As
set_option linter.unusedVariables false
set_option linter.unusedSimpArgs false

theorem row_nil {w : World} {a : Option Addr} {len cap : Nat} {zs : List Int} (hr : IsRow .i64 w a len cap zs) : a = none → min len 70 = 0 ∧ cap = 0 := by
  rcases hr with ⟨_, rfl, rfl, _⟩ | ⟨x, rfl, _⟩
  · intro _; exact ⟨by omega, rfl⟩
  · intro h; cases h
set_option maxRecDepth 100000 in
set_option maxHeartbeats 16000000 in
theorem assignSticks_law (p : Int) (a1 : Option Addr) (len1 cap1 : Nat) (zs1 : List Int) (a2 : Option Addr) (len2 cap2 : Nat) (zs2 : List Int) (w : World) (hp0 : (Lit.int .i64 p).wf = true) (hr1 : IsRow .i64 w a1 len1 cap1 zs1) (hcap1 : cap1 * 8 ≤ 140737488351232) (hr2 : IsRow .i64 w a2 len2 cap2 zs2) (hcap2 : cap2 * 8 ≤ 140737488351232) :
    Calls Try.prog 4 #[.int .i64 p, .slice a1 len1 cap1, .slice a2 len2 cap2] w fun e w' => e = .returned (.bool true) ∧ Below w.heap.size w w' := by
  obtain ⟨i7, hi7, hz70, hz71, hz72⟩ := info_parts info_i64
  obtain ⟨xs, hxn, hsx, hwx, hl1, hlc1⟩ := row_some hr1
  obtain ⟨os, hon, hso, hwo, hl2, hlc2⟩ := row_some hr2
  have hn1 := row_nil hr1
  have hn2 := row_nil hr2
  have C1 := Lib.hid (fun w => some_walk a1 len1 cap1 w hl1 hlc1)
  have C2 := Lib.hid (fun w => some_walk a2 len2 cap2 w hl2 hlc2)
  obtain ⟨M1, hM1⟩ : ∃ M, min len1 70 = M := ⟨_, rfl⟩
  obtain ⟨M2, hM2⟩ : ∃ M, min len2 70 = M := ⟨_, rfl⟩
  rw [hM1] at C1 hxn hn1
  rw [hM2] at C2 hon hn2
  have hM1b : M1 ≤ 70 := by omega
  have hM2b : M2 ≤ 70 := by omega
  have HX := Lib.hid hsx
  have HO := Lib.hid hso
  have HXl := Lib.hid hxn
  have HOl := Lib.hid hon
  have HN1 := Lib.hid hn1
  have HN2 := Lib.hid hn2
  obtain ⟨S, hS⟩ : ∃ S, stickyF p xs os = S := ⟨_, rfl⟩
  obtain ⟨E, hE⟩ : ∃ E, errF p = E := ⟨_, rfl⟩
  have hSl : S.length ≤ 64 := by rw [← hS]; exact stickyF_len p xs os
  have K1 := Lib.hid (fun w h h3 => sticky_all p xs os M1 M2 a1 a2 cap1 cap2 w hxn (by omega) hon (by omega) hwx hwo h h3)
  have K2 := Lib.hid (fun a3 a4 c3 c4 w h h3 => rsticky_all p xs os M1 M2 a3 a4 c3 c4 w hxn (by omega) hon (by omega) h h3)
  rw [hS, hE] at K1 K2
  unfold OutPost at K1 K2
  have P1 := Lib.hid (fun a b c d w h1 h2 => same_all S a b c d w (by omega) h1 h2)
  have P2 := Lib.hid (fun a b c d w h1 h2 => same_all xs a b c d w (by omega) h1 h2)
  have P3 := Lib.hid (fun a b c d w h1 h2 => same_all os a b c d w (by omega) h1 h2)
  rw [hxn] at P2
  rw [hon] at P3
  clear hS hE hon hso hwo hwx hsx hr1 hr2 hM1 hM2 hl1 hl2 hlc1 hlc2 hxn hn1 hn2
  go_enter Try.func4, Try.ntmps4
  go_wp2_with fail
  refine (C1.out _).mono ?_
  rintro e w0 ⟨rfl, rfl⟩
  go_wp2_with fail
  refine (C2.out _).mono ?_
  rintro e w0 ⟨rfl, rfl⟩
  clear C1 C2
  go_wp2_with (at_builtin; refine wp_app2 rfl _ _ 22 rfl w.heap.size 3 i7 (.int .i64 0) 1 8 Try.underlying22 hi7 hz70 hz71 hz72 rfl (by decide) _ 0 [] rfl (World.ownsRow_nil _ _ _ _) _ _ _ rfl (i64s xs) w.heap.size w ?dd (HX.out) ?de (i64s_one _) ?da ?db ?dc (Below.refl _ _) ?_)
  case dd => rw [i64s_len, HXl.out, Nat.mul_one]
  case de => exact HN1.out
  case da => unfold maxLen; omega
  case db => omega
  case dc => omega
  intro a3 c3 w1 o1 g1 f1
  have HB1 : Hid (w1.ownsRow w.heap.size 3 1 (.slice a3 M1 c3) M1 (i64s xs)) := Lib.hid (by simpa using o1)
  have hz1 := g1.size
  have HO1 := Lib.hid (Sl.below HO.out g1 (Nat.le_refl _))
  clear o1 f1
  go_wp2_with (at_builtin; refine wp_app2 rfl _ _ 22 rfl w1.heap.size 3 i7 (.int .i64 0) 1 8 Try.underlying22 hi7 hz70 hz71 hz72 rfl (by decide) _ 0 [] rfl (World.ownsRow_nil _ _ _ _) _ _ _ rfl (i64s os) w.heap.size w1 ?dd (HO1.out) ?de (i64s_one _) ?da ?db ?dc (Below.refl _ _) ?_)
  case dd => rw [i64s_len, HOl.out, Nat.mul_one]
  case de => exact HN2.out
  case da => unfold maxLen; omega
  case db => omega
  case dc => omega
  intro a4 c4 w2 o2 b2 f2
  have g2 := g1.trans (b2.mono hz1)
  have T1 := Lib.hid (Sl.grow ((ownN_sl HB1.out).below b2 (Nat.le_refl _)) b2.size)
  have T2 : Hid (Sl w2 w2.heap.size a4 (i64s os)) := Lib.hid (ownN_sl (base := w1.heap.size) (n := M2) (c := c4) (e := 3) (size := 1) (by simpa using o2))
  clear o2 f2 HB1 HO1 b2
  go_upto_region 5 with fail
  go_wp2_with fail
  refine (K1.out _ (Sl.grow (HX.out.below g2 (Nat.le_refl _)) g2.size) (Sl.grow (HO.out.below g2 (Nat.le_refl _)) g2.size)).mono ?_
  rintro e w3 ⟨r3, k3, rfl, q3, s3, b3⟩
  have g3 := g2.trans (b3.mono g2.size)
  have T3 := Lib.hid (Sl.grow (T1.out.below b3 (Nat.le_refl _)) b3.size)
  have U3 := Lib.hid (Sl.grow (T2.out.below b3 (Nat.le_refl _)) b3.size)
  have V3 := Lib.hid s3
  clear q3 s3 b3 T1 T2
  go_wp2_with fail
  refine (K2.out _ _ _ _ _ T3.out U3.out).mono ?_
  rintro e w4 ⟨r4, k4, rfl, q4, s4, b4⟩
  have g4 := g3.trans (b4.mono g3.size)
  have T4 := Lib.hid (Sl.grow (T3.out.below b4 (Nat.le_refl _)) b4.size)
  have U4 := Lib.hid (Sl.grow (U3.out.below b4 (Nat.le_refl _)) b4.size)
  have V4 := Lib.hid (Sl.grow (V3.out.below b4 (Nat.le_refl _)) b4.size)
  have X4 := Lib.hid s4
  clear q4 s4 b4 T3 U3 V3
  go_wp2_with fail
  refine (P1.out _ _ _ _ _ V4.out X4.out).mono ?_
  rintro e w5 ⟨rfl, b5⟩
  have g5 := g4.trans (b5.mono g4.size)
  have T5 := Lib.hid (Sl.grow (T4.out.below b5 (Nat.le_refl _)) b5.size)
  have U5 := Lib.hid (Sl.grow (U4.out.below b5 (Nat.le_refl _)) b5.size)
  clear b5 V4 X4 T4 U4
  go_wp2_with fail
  refine (P2.out _ _ _ _ _ (Sl.grow (HX.out.below g5 (Nat.le_refl _)) g5.size) T5.out).mono ?_
  rintro e w6 ⟨rfl, b6⟩
  have g6 := g5.trans (b6.mono g5.size)
  have U6 := Lib.hid (Sl.grow (U5.out.below b6 (Nat.le_refl _)) b6.size)
  clear b6 T5 U5
  go_wp2_with fail
  refine (P3.out _ _ _ _ _ (Sl.grow (HO.out.below g6 (Nat.le_refl _)) g6.size) U6.out).mono ?_
  rintro e w7 ⟨rfl, b7⟩
  have g7 := g6.trans (b7.mono g6.size)
  clear b7 U6
  go_wp2_with fail
  refine (awake09_walk _).mono ?_
  rintro e w8 ⟨rfl, b8⟩
  have g8 := g7.trans (b8.mono g7.size)
  go_wp2_with fail
  go_ret
  exact ⟨rfl, g8⟩
end Go.Proofs.Ytgeeeaacaofbeaa
