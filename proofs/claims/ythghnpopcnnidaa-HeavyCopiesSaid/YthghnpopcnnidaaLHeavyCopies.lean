/- The walk of headgatelaw30.HeavyCopies. -/
import Derived.Test.YthghnpopcnnidaaHvCp
namespace Go.Proofs.Ythghnpopcnnidaa
open Go.RowKit Vm
set_option linter.unusedVariables false
set_option linter.unusedSimpArgs false

set_option maxRecDepth 100000 in
set_option maxHeartbeats 8000000 in
theorem heavyCopies_law (most : Int) (a : Option Addr) (len cap : Nat) (zs : List Int) (a2 : Option Addr) (len2 cap2 : Nat) (zs2 : List Int) (w : World) (hmo : (Lit.int .i64 most).wf = true) (hr : IsRow .i64 w a len cap zs) (hcap : cap * 8 ≤ 140737488351232) (hr2 : IsRow .i64 w a2 len2 cap2 zs2) (hcap2 : cap2 * 8 ≤ 140737488351232) :
    Calls Try.prog 8 #[.int .i64 most, .slice a len cap, .slice a2 len2 cap2] w fun e w' => e = .returned (.bool true) ∧ Below w.heap.size w w' := by
  obtain ⟨xs, hxl, hsx, hbx, hl63, hlc⟩ := row400 hr
  have KSo := Lib.hid (some30_walk a len cap w hl63 hlc)
  have K7 := Lib.hid (fun w => awake30_walk w)
  obtain ⟨N, hN⟩ : ∃ N, min len 400 = N := ⟨_, rfl⟩
  rw [hN] at hxl KSo
  have hN4 : N ≤ 400 := by omega
  have HN := Lib.hid hxl
  have HS := Lib.hid hsx
  have KMa := Lib.hid (made_walk most xs N a cap w hxl hN4 hsx hbx)
  obtain ⟨hm1, hm2, hm3⟩ := mosN_le most
  have HSt := Lib.hid (str_made (mosN most) hm1 hm2 xs)
  have HOK := Lib.hid ((addTo_ok (l := xs) (newH_ok hm1 hm2) xs.length).more (show 0 + xs.length ≤ 400 by omega))
  have HMm := Lib.hid (addTo_m (newH (mosN most)) xs xs.length)
  have HSs := Lib.hid (addTo_s (newH (mosN most)) xs xs.length)
  unfold MadeQ at KMa
  have HMo := Lib.hid (show mosN most = mosN most from rfl)
  obtain ⟨mm, hmm⟩ : ∃ mm, mosN most = mm := ⟨_, rfl⟩
  rw [hmm] at KMa hm1 hm2 hm3 HSt HOK HMm HSs
  have HMM := Lib.hid hmm
  obtain ⟨H, hH⟩ : ∃ H, addTo (newH mm) xs xs.length = H := ⟨_, rfl⟩
  have HHd := Lib.hid hH
  rw [hH] at KMa HSt HOK HMm HSs
  have hHm : H.m = mm := HMm.out
  have HHs := Lib.hid (show H.s = N from by rw [HSs.out, HN.out]; show 0 + N = N; omega)
  have hLm : H.L.length ≤ 64 := by have := HOK.out.len; omega
  obtain ⟨D, hD⟩ : ∃ D, H.L.length = D := ⟨_, rfl⟩
  have HD := Lib.hid hD
  rw [hD] at hLm
  have HTl := Lib.hid (show (topL H.L).length = D by rw [topL_len, hD])
  have HHm := Lib.hid hHm
  have KT := Lib.hid (fun g S w h => top64_ha 400 H g S w HOK.out h)
  rw [hD] at KT
  unfold RowQ at KT
  have hNc : N ≤ cap := by omega
  clear hmo hr hcap hxl hsx hbx hl63 hlc hmm hH hHm hD HMm HSs
  obtain ⟨ms, hml, hsm, hbm, hm63, hmc⟩ := row400 hr2
  have KS2 := Lib.hid (some30_walk a2 len2 cap2 w hm63 hmc)
  obtain ⟨M, hM⟩ : ∃ M, min len2 400 = M := ⟨_, rfl⟩
  rw [hM] at hml KS2
  have hM4 : M ≤ 400 := by omega
  have HMl := Lib.hid hml
  have HSm := Lib.hid hsm
  have HBm := Lib.hid hbm
  have KCp := Lib.hid (fun g S w h => copy_ha 400 H g S w HOK.out h)
  unfold CpQ at KCp
  have KAd := Lib.hid (fun g S w hl h => add_any 400 ms M a2 cap2 H g S w hml (by omega) HOK.out hl h)
  unfold HQ at KAd
  have HS2 := Lib.hid (show (addTo H ms M).s = N + M from by rw [addTo_s, HHs.out])
  obtain ⟨H2, hH2⟩ : ∃ H2, addTo H ms M = H2 := ⟨_, rfl⟩
  rw [hH2] at KAd HS2
  have KS3 := Lib.hid (fun g S w h => seen_ha H g S w h)
  rw [HHs.out] at KS3
  have KS4 := Lib.hid (fun g S w h => seen_ha H2 g S w h)
  rw [HS2.out] at KS4
  have SM := Lib.hid (fun a b c d w ha hb => same_ta (topL H.L) D a b c d w.heap.size w HTl.out (by omega) ha hb (Nat.le_refl _))
  have Z1 := Lib.hid (fun w => cnt_nil most w)
  have Z2 := Lib.hid (fun w => add_nil N a cap w)
  have Z3 := Lib.hid (fun w => seen_nil w)
  have Z4 := Lib.hid (fun w => top_nil most w)
  have Z5 := Lib.hid (fun w => copy_nil w)
  have HwS := Lib.hid (show IntKind.i64.wrap ((N : Int) + (M : Int)) = ((N + M : Nat) : Int) by rw [IntWalk.i64_in _ (by omega)]; omega)
  clear hr2 hcap2 hml hsm hbm hm63 hmc hH2 hM
  go_enter Try.func8, Try.ntmps8
  go_wp2_with fail
  refine KSo.out.mono ?_
  rintro e w' ⟨rfl, hww⟩
  subst hww
  clear KSo
  go_wp2_with fail
  refine KS2.out.mono ?_
  rintro e w'' ⟨rfl, hww⟩
  subst hww
  clear KS2
  go_wp2_with fail
  refine KMa.out.mono ?_
  rintro e w0 ⟨g, S, rfl, A0, hZ, b0⟩
  clear KMa
  have KT1 := Lib.hid (KT.out g S w0 A0)
  go_wp2_with fail
  refine KT1.out.mono ?_
  rintro e w3 ⟨a3, c3, rfl, p3, b3⟩
  have A3 := Lib.hid (A0.keep b3)
  have P3 := Lib.hid p3
  have B3 := Lib.hid (b0.trans (b3.mono b0.size))
  have KC1 := Lib.hid (KCp.out g S w3 A3.out)
  clear KT1 A0 p3 b3 KCp b0
  have hz3 := B3.out.size
  go_wp2_with fail
  refine KC1.out.mono ?_
  rintro e w4 ⟨g2, T, rfl, C4, hZ2, b4⟩
  have A4 := Lib.hid (A3.out.keep b4)
  have P4 := Lib.hid (P3.out.keep b4)
  have KT2 := Lib.hid (KT.out g2 T w4 C4)
  have C4 := Lib.hid C4
  clear KC1
  go_wp2_with fail
  refine KT2.out.mono ?_
  rintro e w5 ⟨a5, c5, rfl, p5, b5⟩
  have P5 := P4.out.keep b5
  have SM1 := Lib.hid (SM.out a5 a3 c5 c3 w5 p5.1 P5.1)
  have h5 := Lib.hid (gtrans b4 b5)
  clear KT2 p5 P5
  go_wp2_with fail
  refine SM1.out.mono ?_
  rintro e w6 ⟨rfl, b6⟩
  have h6 := gtrans h5.out b6
  have K1 := Lib.hid (KS4.out)
  have KA1 := Lib.hid (KS3.out g2 T w6 (C4.out.keep (gtrans b5 b6)))
  have KA2 := Lib.hid (KS3.out g S w6 (A3.out.keep h6))
  have g1 : ((N : Int) != (N : Int)) = false := by simp
  have g2e : ((N : Int) == (N : Int)) = true := by simp
  have B6 := B3.out.trans (h6.mono hz3)
  have hA3 := A3.out.live
  have Q6 : ms = [] ∨ Apt w6 T a2 (i64s ms) := by
    by_cases h0 : ms = []
    · exact .inl h0
    · refine .inr ⟨(HSm.out.below B6 (Nat.le_refl _)).grow B6.size, fun x hx => ?_⟩
      have h1 := (HBm.out x hx).resolve_right h0
      exact ⟨fun hT => by have := hZ2.out _ hT; omega, by have := B6.size; omega⟩
  have KA3 := Lib.hid (KAd.out g2 T w6 Q6 (C4.out.keep (gtrans b5 b6)))
  have P6 : Apt w6 T a3 (taCells (topL H.L)) := ⟨(P3.out.keep h6).1, fun x hx => ⟨fun hT => by have := (P3.out.2 x hx).2; have := hZ2.out _ hT; omega, ((P3.out.keep h6).2 x hx).2⟩⟩
  have P6 := Lib.hid P6
  have A6 := Lib.hid (A3.out.keep h6)
  have hdj := Lib.hid (show ∀ k, S k → ¬ T k from fun k h1 h2 => by have := hA3 k h1; have := hZ2.out k h2; omega)
  have HZT := Lib.hid (show ∀ k, T k → w.heap.size ≤ k from fun k hk => Nat.le_trans hz3 (hZ2.out k hk))
  clear SM1 b4 b5 b6 h5 h6 Q6 KAd hA3
  go_wp2_with fail
  refine KA1.out.mono ?_
  rintro e w61 ⟨rfl, hw⟩
  subst hw
  clear KA1
  go_wp2_with fail
  refine KA2.out.mono ?_
  rintro e w62 ⟨rfl, hw⟩
  subst hw
  clear KA2
  go_wp2_with fail
  refine KA3.out.mono ?_
  rintro e w7 ⟨rfl, T7, C7, M7⟩
  have A7 := Lib.hid (A6.out.mvs M7 hdj.out)
  have P7 := Lib.hid (P6.out.mvs M7).1
  have B7 := Lib.hid (B6.trans (M7.low HZT.out B6.size))
  have C7 := Lib.hid C7
  have KT3 := Lib.hid (KT.out g S w7 A7.out)
  clear KA3 M7 B6 g1 P6 A6
  go_wp2_with fail
  refine (Z1.out _).mono ?_
  rintro e w71 ⟨rfl, hw⟩
  subst hw
  go_wp2_with fail
  refine KT3.out.mono ?_
  rintro e w8 ⟨a8, c8, rfl, p8, b8⟩
  have SM2 := Lib.hid (SM.out a8 a3 c8 c3 w8 p8.1 ((P7.out.below b8 (Nat.le_refl _)).grow b8.size))
  clear KT3 p8
  go_wp2_with fail
  refine SM2.out.mono ?_
  rintro e w9 ⟨rfl, b9⟩
  have h9 := gtrans b8 b9
  have KB1 := Lib.hid (KS3.out g S w9 (A7.out.keep h9))
  have KB2 := Lib.hid (KS4.out g2 T7 w9 (C7.out.keep h9))
  have B9 := Lib.hid (B7.out.trans (h9.mono B7.out.size))
  have h3e : (((N + M : Nat) : Int) == ((N + M : Nat) : Int)) = true := by simp
  have hwS := HwS.out
  clear SM2 b8 b9 h9
  go_wp2_with fail
  refine KB1.out.mono ?_
  rintro e w91 ⟨rfl, hw⟩
  subst hw
  clear KB1
  go_wp2_with fail
  refine KB2.out.mono ?_
  rintro e w92 ⟨rfl, hw⟩
  subst hw
  clear KB2
  go_wp2_with fail
  refine (Z2.out _).mono ?_
  rintro e w93 ⟨rfl, hw⟩
  subst hw
  go_wp2_with fail
  refine (Z3.out _).mono ?_
  rintro e w94 ⟨rfl, hw⟩
  subst hw
  go_wp2_with fail
  refine (Z4.out _).mono ?_
  rintro e w95 ⟨rfl, hw⟩
  subst hw
  go_wp2_with fail
  refine (Z5.out _).mono ?_
  rintro e w96 ⟨rfl, hw⟩
  subst hw
  go_wp2_with fail
  refine (K7.out _).mono ?_
  rintro e w12 ⟨rfl, h12⟩
  have hfin := B9.out.trans (h12.mono B9.out.size)
  clear hwS
  go_wp2_with fail
  go_ret
  exact ⟨rfl, hfin⟩
end Go.Proofs.Ythghnpopcnnidaa
