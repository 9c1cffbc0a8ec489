/- The walk of the statement AssignRanges of layer 9. -/
import Derived.Test.YtgeeeaacaofbeaaAsRRange
namespace Go.Proofs.Ytgeeeaacaofbeaa
open Go.RowKit Vm As
set_option linter.unusedVariables false
set_option linter.unusedSimpArgs false

set_option maxRecDepth 100000 in
set_option maxHeartbeats 8000000 in
theorem assignRanges_law (p : Int) (a1 : Option Addr) (len1 cap1 : Nat) (zs1 : List Int) (w : World) (hp0 : (Lit.int .i64 p).wf = true) (hr1 : IsRow .i64 w a1 len1 cap1 zs1) (hcap1 : cap1 * 8 ≤ 140737488351232) :
    Calls Try.prog 3 #[.int .i64 p, .slice a1 len1 cap1] w fun e w' => e = .returned (.bool true) ∧ Below w.heap.size w w' := by
  obtain ⟨xs, hxn, hsx, hwx, hl1, hlc1⟩ := row_some hr1
  have C1 := Lib.hid (fun w => some_walk a1 len1 cap1 w hl1 hlc1)
  obtain ⟨M1, hM1⟩ : ∃ M, min len1 70 = M := ⟨_, rfl⟩
  rw [hM1] at C1 hxn
  have hM1b : M1 ≤ 70 := by omega
  have HX := Lib.hid hsx
  obtain ⟨R, hR⟩ : ∃ R, rangeF p xs = R := ⟨_, rfl⟩
  obtain ⟨E, hE⟩ : ∃ E, errF p = E := ⟨_, rfl⟩
  have hRl : R.length ≤ 64 := by rw [← hR]; exact rangeF_len p xs
  have K1 := Lib.hid (fun w h => range_all p xs M1 a1 cap1 w hxn (by omega) h)
  have K2 := Lib.hid (fun w h => rrange_all p xs M1 a1 cap1 w hxn (by omega) h)
  rw [hR, hE] at K1 K2
  unfold OutPost at K1 K2
  have P1 := Lib.hid (fun a b c d w h1 h2 => same_all R a b c d w (by omega) h1 h2)
  clear hR hE hwx hsx hr1 hM1 hl1 hlc1 hxn
  go_enter Try.func3, Try.ntmps3
  go_wp2_with fail
  refine (C1.out _).mono ?_
  rintro e w0 ⟨rfl, rfl⟩
  clear C1
  go_wp2_with fail
  refine (K1.out _ HX.out).mono ?_
  rintro e w1 ⟨r1, k1, rfl, q1, s1, g1⟩
  have U1 := Lib.hid s1
  clear q1 s1
  go_wp2_with fail
  refine (K2.out _ (Sl.grow (HX.out.below g1 (Nat.le_refl _)) g1.size)).mono ?_
  rintro e w2 ⟨r2, k2, rfl, q2, s2, b2⟩
  have g2 := g1.trans (b2.mono g1.size)
  have U2 := Lib.hid (Sl.grow (U1.out.below b2 (Nat.le_refl _)) b2.size)
  have V2 := Lib.hid s2
  clear q2 s2 b2 U1
  go_wp2_with fail
  refine (P1.out _ _ _ _ _ U2.out V2.out).mono ?_
  rintro e w5 ⟨rfl, b5⟩
  have g5 := g2.trans (b5.mono g2.size)
  clear b5 U2 V2
  go_wp2_with fail
  refine (awake09_walk _).mono ?_
  rintro e w7 ⟨rfl, b7⟩
  have g7 := g5.trans (b7.mono g5.size)
  go_wp2_with fail
  go_ret
  exact ⟨rfl, g7⟩
end Go.Proofs.Ytgeeeaacaofbeaa
