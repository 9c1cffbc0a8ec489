/- The walk of the statement AssignStays of layer 9. -/
import Derived.Test.YtgeeeaacaofbeaaAsFair
namespace Go.Proofs.Ytgeeeaacaofbeaa
open Go.RowKit Vm As
set_option linter.unusedVariables false
set_option linter.unusedSimpArgs false

set_option maxRecDepth 100000 in
set_option maxHeartbeats 16000000 in
theorem assignStays_law (p : Int) (a1 : Option Addr) (len1 cap1 : Nat) (zs1 : List Int) (a2 : Option Addr) (len2 cap2 : Nat) (zs2 : List Int) (w : World) (hp0 : (Lit.int .i64 p).wf = true) (hr1 : IsRow .i64 w a1 len1 cap1 zs1) (hcap1 : cap1 * 8 ≤ 140737488351232) (hr2 : IsRow .i64 w a2 len2 cap2 zs2) (hcap2 : cap2 * 8 ≤ 140737488351232) :
    Calls Try.prog 7 #[.int .i64 p, .slice a1 len1 cap1, .slice a2 len2 cap2] w fun e w' => e = .returned (.bool true) ∧ Below w.heap.size w w' := by
  obtain ⟨xs, hxn, hsx, hwx, hl1, hlc1⟩ := row_some hr1
  obtain ⟨os, hon, hso, hwo, hl2, hlc2⟩ := row_some hr2
  have C1 := Lib.hid (fun w => some_walk a1 len1 cap1 w hl1 hlc1)
  have C2 := Lib.hid (fun w => some_walk a2 len2 cap2 w hl2 hlc2)
  obtain ⟨M1, hM1⟩ : ∃ M, min len1 70 = M := ⟨_, rfl⟩
  obtain ⟨M2, hM2⟩ : ∃ M, min len2 70 = M := ⟨_, rfl⟩
  rw [hM1] at C1 hxn
  rw [hM2] at C2 hon
  have hM1b : M1 ≤ 70 := by omega
  have hM2b : M2 ≤ 70 := by omega
  have HX := Lib.hid hsx
  have HO := Lib.hid hso
  have hz : (Lit.int .i64 0).wf = true := nat_wf (c := 0) (by omega)
  have W1 : ∀ y ∈ stickyF p xs os, (Lit.int .i64 y).wf = true := fun y hy => by
    rcases sticky_mem hy with rfl | h
    · exact hz
    · exact hwx y h
  have W2 : ∀ y ∈ rangeF p xs, (Lit.int .i64 y).wf = true := fun y hy => by
    rcases range_mem hy with rfl | h
    · exact hz
    · exact hwx y h
  have e1 := sticky_twice p xs os
  have e2 := sticky_range p xs
  obtain ⟨S, hS⟩ : ∃ S, stickyF p xs os = S := ⟨_, rfl⟩
  obtain ⟨R, hR⟩ : ∃ R, rangeF p xs = R := ⟨_, rfl⟩
  obtain ⟨E, hE⟩ : ∃ E, errF p = E := ⟨_, rfl⟩
  have hSl : S.length ≤ 64 := by rw [← hS]; exact stickyF_len p xs os
  have hRl : R.length ≤ 64 := by rw [← hR]; exact rangeF_len p xs
  rw [hS] at W1 e1
  rw [hR] at W2 e2
  have K1 := Lib.hid (fun w h h3 => sticky_all p xs os M1 M2 a1 a2 cap1 cap2 w hxn (by omega) hon (by omega) hwx hwo h h3)
  have K2 := Lib.hid (fun a c w h h3 => sticky_all p xs S M1 S.length a1 a cap1 c w hxn (by omega) rfl (by omega) hwx W1 h h3)
  have K3 := Lib.hid (fun w h => range_all p xs M1 a1 cap1 w hxn (by omega) h)
  have K4 := Lib.hid (fun a c w h h3 => sticky_all p xs R M1 R.length a1 a cap1 c w hxn (by omega) rfl (by omega) hwx W2 h h3)
  rw [hS, hE] at K1
  rw [e1, hE] at K2
  rw [hR, hE] at K3
  rw [e2, hE] at K4
  unfold OutPost at K1 K2 K3 K4
  have P1 := Lib.hid (fun a b c d w h1 h2 => same_all S a b c d w (by omega) h1 h2)
  have P2 := Lib.hid (fun a b c d w h1 h2 => same_all R a b c d w (by omega) h1 h2)
  clear hS hE hR hon hso hwo hwx hsx hr1 hr2 hM1 hM2 hl1 hl2 hlc1 hlc2 hxn W1 W2 e1 e2 hz
  go_enter Try.func7, Try.ntmps7
  go_wp2_with fail
  refine (C1.out _).mono ?_
  rintro e w0 ⟨rfl, rfl⟩
  go_wp2_with fail
  refine (C2.out _).mono ?_
  rintro e w0 ⟨rfl, rfl⟩
  clear C1 C2
  go_wp2_with fail
  refine (K1.out _ HX.out HO.out).mono ?_
  rintro e w1 ⟨r1, k1, rfl, q1, s1, g1⟩
  have T1 := Lib.hid s1
  clear q1 s1
  go_wp2_with fail
  refine (K2.out _ _ _ (Sl.grow (HX.out.below g1 (Nat.le_refl _)) g1.size) T1.out).mono ?_
  rintro e w2 ⟨r2, k2, rfl, q2, s2, b2⟩
  have g2 := g1.trans (b2.mono g1.size)
  have T2 := Lib.hid (Sl.grow (T1.out.below b2 (Nat.le_refl _)) b2.size)
  have U2 := Lib.hid s2
  clear q2 s2 b2 T1
  go_wp2_with fail
  refine (K3.out _ (Sl.grow (HX.out.below g2 (Nat.le_refl _)) g2.size)).mono ?_
  rintro e w3 ⟨r3, k3, rfl, q3, s3, b3⟩
  have g3 := g2.trans (b3.mono g2.size)
  have T3 := Lib.hid (Sl.grow (T2.out.below b3 (Nat.le_refl _)) b3.size)
  have U3 := Lib.hid (Sl.grow (U2.out.below b3 (Nat.le_refl _)) b3.size)
  have V3 := Lib.hid s3
  clear q3 s3 b3 T2 U2
  go_wp2_with fail
  refine (K4.out _ _ _ (Sl.grow (HX.out.below g3 (Nat.le_refl _)) g3.size) V3.out).mono ?_
  rintro e w4 ⟨r4, k4, rfl, q4, s4, b4⟩
  have g4 := g3.trans (b4.mono g3.size)
  have T4 := Lib.hid (Sl.grow (T3.out.below b4 (Nat.le_refl _)) b4.size)
  have U4 := Lib.hid (Sl.grow (U3.out.below b4 (Nat.le_refl _)) b4.size)
  have V4 := Lib.hid (Sl.grow (V3.out.below b4 (Nat.le_refl _)) b4.size)
  have X4 := Lib.hid s4
  clear q4 s4 b4 T3 U3 V3
  go_wp2_with fail
  refine (P1.out _ _ _ _ _ T4.out U4.out).mono ?_
  rintro e w5 ⟨rfl, b5⟩
  have g5 := g4.trans (b5.mono g4.size)
  have V5 := Lib.hid (Sl.grow (V4.out.below b5 (Nat.le_refl _)) b5.size)
  have X5 := Lib.hid (Sl.grow (X4.out.below b5 (Nat.le_refl _)) b5.size)
  clear b5 T4 U4 V4 X4
  go_wp2_with fail
  refine (P2.out _ _ _ _ _ V5.out X5.out).mono ?_
  rintro e w6 ⟨rfl, b6⟩
  have g6 := g5.trans (b6.mono g5.size)
  clear b6 V5 X5
  go_wp2_with fail
  refine (awake09_walk _).mono ?_
  rintro e w8 ⟨rfl, b8⟩
  have g8 := g6.trans (b8.mono g6.size)
  go_wp2_with fail
  go_ret
  exact ⟨rfl, g8⟩
end Go.Proofs.Ytgeeeaacaofbeaa
