/- The walk of headgatelaw30.HeavyBounds. -/
import Derived.Test.YthghnpopcnnidaaHvTell
namespace Go.Proofs.Ythghnpopcnnidaa
open Go.RowKit Vm
set_option linter.unusedVariables false
set_option linter.unusedSimpArgs false

set_option maxRecDepth 100000 in
set_option maxHeartbeats 8000000 in
theorem heavyBounds_law (most : Int) (a : Option Addr) (len cap : Nat) (zs : List Int) (key : Int) (w : World) (hmo : (Lit.int .i64 most).wf = true) (hr : IsRow .i64 w a len cap zs) (hcap : cap * 8 ≤ 140737488351232) (hk : (Lit.int .i64 key).wf = true) :
    Calls Try.prog 4 #[.int .i64 most, .slice a len cap, .int .i64 key] w fun e w' => e = .returned (.bool true) ∧ Below w.heap.size w w' := by
  obtain ⟨xs, hxl, hsx, hbx, hl63, hlc⟩ := row400 hr
  have KSo := Lib.hid (some30_walk a len cap w hl63 hlc)
  have K7 := Lib.hid (fun w => awake30_walk w)
  obtain ⟨N, hN⟩ : ∃ N, min len 400 = N := ⟨_, rfl⟩
  rw [hN] at hxl KSo
  have hN4 : N ≤ 400 := by omega
  have HN := Lib.hid hxl
  have HS := Lib.hid hsx
  have KMa := Lib.hid (made_walk most xs N a cap w hxl hN4 hsx hbx)
  obtain ⟨hm1, hm2, hm3⟩ := mosN_le most
  have HSt := Lib.hid (str_made (mosN most) hm1 hm2 xs)
  have HOK := Lib.hid ((addTo_ok (l := xs) (newH_ok hm1 hm2) xs.length).more (show 0 + xs.length ≤ 400 by omega))
  have HMm := Lib.hid (addTo_m (newH (mosN most)) xs xs.length)
  have HSs := Lib.hid (addTo_s (newH (mosN most)) xs xs.length)
  unfold MadeQ at KMa
  have HMo := Lib.hid (show mosN most = mosN most from rfl)
  obtain ⟨mm, hmm⟩ : ∃ mm, mosN most = mm := ⟨_, rfl⟩
  rw [hmm] at KMa hm1 hm2 hm3 HSt HOK HMm HSs
  have HMM := Lib.hid hmm
  obtain ⟨H, hH⟩ : ∃ H, addTo (newH mm) xs xs.length = H := ⟨_, rfl⟩
  have HHd := Lib.hid hH
  rw [hH] at KMa HSt HOK HMm HSs
  have hHm : H.m = mm := HMm.out
  have HHs := Lib.hid (show H.s = N from by rw [HSs.out, HN.out]; show 0 + N = N; omega)
  have hLm : H.L.length ≤ 64 := by have := HOK.out.len; omega
  obtain ⟨D, hD⟩ : ∃ D, H.L.length = D := ⟨_, rfl⟩
  have HD := Lib.hid hD
  rw [hD] at hLm
  have HTl := Lib.hid (show (topL H.L).length = D by rw [topL_len, hD])
  have HHm := Lib.hid hHm
  have KT := Lib.hid (fun g S w h => top64_ha 400 H g S w HOK.out h)
  rw [hD] at KT
  unfold RowQ at KT
  have hNc : N ≤ cap := by omega
  clear hmo hr hcap hxl hsx hbx hl63 hlc hmm hH hHm hD HMm HSs
  go_enter Try.func4, Try.ntmps4
  go_wp2_with fail
  refine KSo.out.mono ?_
  rintro e w' ⟨rfl, hww⟩
  subst hww
  clear KSo
  go_wp2_with fail
  refine KMa.out.mono ?_
  rintro e w0 ⟨g, S, rfl, A0, hZ, b0⟩
  clear KMa
  have KC := Lib.hid (cnt_ha 400 key H g S w0 (by omega) HOK.out A0)
  have hte := tells HOK.out HSt.out key
  obtain ⟨lo, hlo⟩ : ∃ lo, loH H.L key = lo := ⟨_, rfl⟩
  obtain ⟨hi, hhi⟩ : ∃ hi, hiH H.m H.L key = hi := ⟨_, rfl⟩
  obtain ⟨q, hq⟩ : ∃ q, cntX xs key = q := ⟨_, rfl⟩
  rw [hlo, hhi] at KC
  rw [hlo, hhi, hq] at hte
  clear hlo hhi
  go_wp2_with fail
  refine KC.out.mono ?_
  rintro e w1 ⟨rfl, b1⟩
  have A1 := A0.keep b1
  have B1 := b0.trans (b1.mono b0.size)
  have KX := Lib.hid (times_walk xs N key a cap w.heap.size w1 HN.out (by omega) (HS.out.below B1 (Nat.le_refl _)) B1.size)
  rw [hq] at KX
  have KT1 := Lib.hid (KT.out g S w1 A1)
  have g1 : ¬ (q : Int) < lo := by omega
  have g2 : ¬ hi < (q : Int) := by omega
  clear KC KT hq hte
  go_wp2_with fail
  refine KX.out.mono ?_
  rintro e w2 ⟨rfl, hw2⟩
  subst hw2
  clear KX
  go_wp2_with fail
  refine KT1.out.mono ?_
  rintro e w3 ⟨a3, c3, rfl, p3, b3⟩
  have A3 := Lib.hid (A1.keep b3)
  have P3 := Lib.hid p3
  have B3 := Lib.hid (B1.trans (b3.mono B1.size))
  clear KT1 A0 A1 p3 b3 g1 g2
  have hz3 := B3.out.size
  go_wp2_with fail
  go_loopw [12] (fun I wr => ∃ i : Nat, i ≤ D ∧ I = .int .i64 i ∧ Below w3.heap.size w3 wr) (fun I _ => D - (intOf I).toNat)
  case atStart => exact ⟨0, by omega, rfl, Below.refl _ _⟩
  case round =>
    obtain ⟨i, hi, rfl, hb⟩ := hrel
    by_cases hlt : i < D
    · have hlt2 : (i : Int) < (D : Int) := by omega
      have hi0 : 0 ≤ (i : Int) := by omega
      have hiT : i < (topL H.L).length := by rw [HTl.out]; exact hlt
      obtain ⟨bt, ot, rfl, hbt, hct⟩ := (P3.out.keep hb).1.ta (by omega)
      obtain ⟨r0, r1, r2⟩ := hct i hiT
      have hmem := top_mem hiT
      obtain ⟨t, ht⟩ : ∃ t, (topL H.L).getD i ta0 = t := ⟨_, rfl⟩
      rw [ht] at r0 r1 r2 hmem
      obtain ⟨e1, e2⟩ := at_lo HOK.out hmem
      have hte := tells HOK.out HSt.out t.k
      rw [e1, e2] at hte
      have htn := HOK.out.t t hmem
      have KC := Lib.hid (cnt_ha 400 t.k H g S wr (by omega) HOK.out (A3.out.keep hb))
      rw [e1, e2] at KC
      have hs : H.s = N := HHs.out
      have HPt := Lib.hid (P3.out.keep hb)
      obtain ⟨q, hq⟩ : ∃ q, cntX xs t.k = q := ⟨_, rfl⟩
      rw [hq] at hte
      have Hq := Lib.hid hq
      have HTi := Lib.hid ht
      obtain ⟨tk, tn, to⟩ := t
      simp only at r0 r1 r2 KC hte htn Hq
      have HW := Lib.hid (show IntKind.i64.wrap (tn - to) = tn - to from IntWalk.i64_in _ (by omega))
      have g1 : ¬ (q : Int) < tn - to := by omega
      have g2 : ¬ tn < (q : Int) := by omega
      have g3 : (tn - to != tn - to) = false := by simp
      have g4 : (tn != tn) = false := by simp
      clear hct hmem e1 e2 hte htn ht hq hs
      go_wp2_with fail
      refine KC.out.mono ?_
      rintro e w5 ⟨rfl, b5⟩
      have hb5 := gtrans hb b5
      have B5 := B3.out.trans (hb5.mono hz3)
      have KX := Lib.hid (times_walk xs N tk a cap w.heap.size w5 HN.out (by omega) (HS.out.below B5 (Nat.le_refl _)) B5.size)
      rw [Hq.out] at KX
      obtain ⟨bt', ot', e', hbt', hct⟩ := (HPt.out.keep b5).1.ta (by omega)
      injection e' with e'
      injection e' with e1 e2 _
      subst e1 e2
      obtain ⟨s0, s1, s2⟩ := hct i hiT
      rw [HTi.out] at s0 s1 s2
      simp only at s0 s1 s2
      clear KC r0 r1 r2 hct
      go_wp2_with fail
      refine KX.out.mono ?_
      rintro e w6 ⟨rfl, hw6⟩
      subst hw6
      have hbd := Lib.hid (fun nq => hb5.trans (below_drewN w3.heap.size w6 nq))
      have hw := HW.out
      clear KX
      go_wp2_with fail
      go_quiet (fail)
      clear hw s0 s1 s2
      go_wp2_with fail
      go_roundw
      case rel => exact ⟨i + 1, by omega, by go_num, hbd.out _⟩
      case measure => simp [intOf]; omega
    · obtain rfl : i = D := by omega
      go_wp2_with fail
      refine (K7.out _).mono ?_
      rintro e w12 ⟨rfl, h12⟩
      have hfin := (B3.out.trans (hb.mono hz3)).trans (h12.mono (Nat.le_trans hz3 hb.size))
      go_wp2_with fail
      go_ret
      exact ⟨rfl, hfin⟩
end Go.Proofs.Ythghnpopcnnidaa
