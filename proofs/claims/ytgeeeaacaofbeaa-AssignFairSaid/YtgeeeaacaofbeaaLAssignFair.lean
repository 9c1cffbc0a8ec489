/- The walk of the statement AssignFair of layer 9. -/
import Derived.Test.YtgeeeaacaofbeaaAsFairW
namespace Go.Proofs.Ytgeeeaacaofbeaa
open Go.RowKit Vm As
set_option linter.unusedVariables false
set_option linter.unusedSimpArgs false

set_option maxRecDepth 100000 in
set_option maxHeartbeats 16000000 in
theorem assignFair_law (p : Int) (a1 : Option Addr) (len1 cap1 : Nat) (zs1 : List Int) (a2 : Option Addr) (len2 cap2 : Nat) (zs2 : List Int) (w : World) (hp0 : (Lit.int .i64 p).wf = true) (hr1 : IsRow .i64 w a1 len1 cap1 zs1) (hcap1 : cap1 * 8 ≤ 140737488351232) (hr2 : IsRow .i64 w a2 len2 cap2 zs2) (hcap2 : cap2 * 8 ≤ 140737488351232) :
    Calls Try.prog 5 #[.int .i64 p, .slice a1 len1 cap1, .slice a2 len2 cap2] w fun e w' => e = .returned (.bool true) ∧ Below w.heap.size w w' := by
  obtain ⟨xs, hxn, hsx, hwx, hl1, hlc1⟩ := row_some hr1
  obtain ⟨os, hon, hso, hwo, hl2, hlc2⟩ := row_some hr2
  have C1 := Lib.hid (fun w => some_walk a1 len1 cap1 w hl1 hlc1)
  have C2 := Lib.hid (fun w => some_walk a2 len2 cap2 w hl2 hlc2)
  obtain ⟨M1, hM1⟩ : ∃ M, min len1 70 = M := ⟨_, rfl⟩
  obtain ⟨M2, hM2⟩ : ∃ M, min len2 70 = M := ⟨_, rfl⟩
  rw [hM1] at C1 hxn
  rw [hM2] at C2 hon
  have hM1b : M1 ≤ 70 := by omega
  have hM2b : M2 ≤ 70 := by omega
  have HX := Lib.hid hsx
  have HO := Lib.hid hso
  have K1 := Lib.hid (fun w h => range_all p xs M1 a1 cap1 w hxn (by omega) h)
  have K2 := Lib.hid (fun w h h3 => sticky_all p xs os M1 M2 a1 a2 cap1 cap2 w hxn (by omega) hon (by omega) hwx hwo h h3)
  by_cases hok : okP p = true
  · obtain ⟨h1, h2⟩ := okP_yes hok
    have F1 := Lib.hid (fun a c w ha hb => fair_walk (rangeF p xs) xs p.toNat M1 a a1 c cap1 w (by omega) (by omega) hxn (by omega) ha hb (fairOf_range p xs hok))
    have F2 := Lib.hid (fun a c w ha hb => fair_walk (stickyF p xs os) xs p.toNat M1 a a1 c cap1 w (by omega) (by omega) hxn (by omega) ha hb (fairOf_sticky p xs os hok))
    have hE : errF p = 0 := by unfold errF; rw [if_pos hok]
    rw [show ((p.toNat : Nat) : Int) = p by omega] at F1 F2
    rw [hE] at K1 K2
    unfold OutPost at K1 K2
    generalize rangeF p xs = R at K1 F1
    generalize stickyF p xs os = S at K2 F2
    have hg1 : decide (p < 1) = false := decide_eq_false (by omega)
    have hg2 : ¬ (64 : Int) < p := by omega
    clear hon hso hwo hwx hsx hr1 hr2 hM1 hM2 hl1 hl2 hlc1 hlc2 hxn hE hok h1 h2
    go_enter Try.func5, Try.ntmps5
    go_wp2_with fail
    refine (C1.out _).mono ?_
    rintro e w0 ⟨rfl, rfl⟩
    go_wp2_with fail
    refine (C2.out _).mono ?_
    rintro e w0 ⟨rfl, rfl⟩
    clear C1 C2
    go_wp2_with fail
    refine (K1.out _ HX.out).mono ?_
    rintro e w1 ⟨r1, k1, rfl, q1, s1, g1⟩
    have T1 := Lib.hid s1
    clear q1 s1
    go_wp2_with fail
    refine (K2.out _ (Sl.grow (HX.out.below g1 (Nat.le_refl _)) g1.size) (Sl.grow (HO.out.below g1 (Nat.le_refl _)) g1.size)).mono ?_
    rintro e w2 ⟨r2, k2, rfl, q2, s2, b2⟩
    have g2 := g1.trans (b2.mono g1.size)
    have T2 := Lib.hid (Sl.grow (T1.out.below b2 (Nat.le_refl _)) b2.size)
    have U2 := Lib.hid s2
    clear q2 s2 b2 T1
    go_wp2_with fail
    refine (F1.out _ _ _ T2.out (Sl.grow (HX.out.below g2 (Nat.le_refl _)) g2.size)).mono ?_
    rintro e w3 ⟨rfl, b3⟩
    have g3 := g2.trans (b3.mono g2.size)
    have U3 := Lib.hid (Sl.grow (U2.out.below b3 (Nat.le_refl _)) b3.size)
    clear b3 T2 U2
    go_wp2_with fail
    refine (F2.out _ _ _ U3.out (Sl.grow (HX.out.below g3 (Nat.le_refl _)) g3.size)).mono ?_
    rintro e w4 ⟨rfl, b4⟩
    have g4 := g3.trans (b4.mono g3.size)
    clear b4 U3
    go_wp2_with fail
    refine (awake09_walk _).mono ?_
    rintro e w8 ⟨rfl, b8⟩
    have g8 := g4.trans (b8.mono g4.size)
    go_wp2_with fail
    go_ret
    exact ⟨rfl, g8⟩
  · have hE : errF p = 1 := by unfold errF; rw [if_neg hok]
    have hR : rangeF p xs = [] := by unfold rangeF; rw [if_neg hok]
    have hS : stickyF p xs os = [] := by unfold stickyF; rw [if_neg hok]
    rw [hE, hR] at K1
    rw [hE, hS] at K2
    unfold OutPost at K1 K2
    by_cases h1 : p < 1
    · have hg1 : decide (p < 1) = true := decide_eq_true h1
      clear hon hso hwo hwx hsx hr1 hr2 hM1 hM2 hl1 hl2 hlc1 hlc2 hxn hE hok hR hS h1
      go_enter Try.func5, Try.ntmps5
      go_wp2_with fail
      refine (C1.out _).mono ?_
      rintro e w0 ⟨rfl, rfl⟩
      go_wp2_with fail
      refine (C2.out _).mono ?_
      rintro e w0 ⟨rfl, rfl⟩
      clear C1 C2
      go_wp2_with fail
      refine (K1.out _ HX.out).mono ?_
      rintro e w1 ⟨r1, k1, rfl, q1, s1, g1⟩
      have T1 := Lib.hid s1
      clear q1 s1
      go_wp2_with fail
      refine (K2.out _ (Sl.grow (HX.out.below g1 (Nat.le_refl _)) g1.size) (Sl.grow (HO.out.below g1 (Nat.le_refl _)) g1.size)).mono ?_
      rintro e w2 ⟨r2, k2, rfl, q2, s2, b2⟩
      have g2 := g1.trans (b2.mono g1.size)
      have T2 := Lib.hid (Sl.grow (T1.out.below b2 (Nat.le_refl _)) b2.size)
      have U2 := Lib.hid s2
      clear q2 s2 b2 T1
      go_wp2_with fail
      refine (awake09_walk _).mono ?_
      rintro e w8 ⟨rfl, b8⟩
      have g8 := g2.trans (b8.mono g2.size)
      go_wp2_with fail
      go_ret
      exact ⟨rfl, g8⟩
    · have hg1 : decide (p < 1) = false := decide_eq_false h1
      have hg2 : (64 : Int) < p := by unfold okP at hok; simp at hok; omega
      clear hon hso hwo hwx hsx hr1 hr2 hM1 hM2 hl1 hl2 hlc1 hlc2 hxn hE hok hR hS h1
      go_enter Try.func5, Try.ntmps5
      go_wp2_with fail
      refine (C1.out _).mono ?_
      rintro e w0 ⟨rfl, rfl⟩
      go_wp2_with fail
      refine (C2.out _).mono ?_
      rintro e w0 ⟨rfl, rfl⟩
      clear C1 C2
      go_wp2_with fail
      refine (K1.out _ HX.out).mono ?_
      rintro e w1 ⟨r1, k1, rfl, q1, s1, g1⟩
      have T1 := Lib.hid s1
      clear q1 s1
      go_wp2_with fail
      refine (K2.out _ (Sl.grow (HX.out.below g1 (Nat.le_refl _)) g1.size) (Sl.grow (HO.out.below g1 (Nat.le_refl _)) g1.size)).mono ?_
      rintro e w2 ⟨r2, k2, rfl, q2, s2, b2⟩
      have g2 := g1.trans (b2.mono g1.size)
      have T2 := Lib.hid (Sl.grow (T1.out.below b2 (Nat.le_refl _)) b2.size)
      have U2 := Lib.hid s2
      clear q2 s2 b2 T1
      go_wp2_with fail
      refine (awake09_walk _).mono ?_
      rintro e w8 ⟨rfl, b8⟩
      have g8 := g2.trans (b8.mono g2.size)
      go_wp2_with fail
      go_ret
      exact ⟨rfl, g8⟩
end Go.Proofs.Ytgeeeaacaofbeaa
