/- The walks of assign's poorest and Sticky. -/
import Derived.Test.YtafibgekikjlhaaAsKeep
namespace Go.Proofs.Ytafibgekikjlhaa
open Go.RowKit Vm As
set_option linter.unusedVariables false
set_option linter.unusedSimpArgs false

theorem poorTo_mem {m R : List Int} (h : 0 < m.length) : ∀ j, j ≤ m.length → poorTo m R j ∈ m := by
  intro j
  induction j with
  | zero => intro _; rw [poorTo, show m.getD 0 0 = m[0] from by simp [List.getD, h]]; exact List.getElem_mem h
  | succ j ih =>
    intro hj
    rw [poorTo]
    split
    · have hl : j < m.length := by omega
      rw [show m.getD j 0 = m[j] from by simp [List.getD, hl]]; exact List.getElem_mem hl
    · exact ih (by omega)
theorem memGet {m : List Int} {j : Nat} (h : j < m.length) : m.getD j 0 ∈ m := by
  rw [show m.getD j 0 = m[j] from by simp [List.getD, h]]; exact List.getElem_mem h
set_option maxRecDepth 100000 in
set_option maxHeartbeats 8000000 in
theorem poorest_walk (R m : List Int) (k r n B2 c2 : Nat) (a2 : Option Addr) (w : World) (hR : R.length ≤ 64) (hk : m.length = k) (hk1 : 1 ≤ k) (hk2 : k ≤ 1000) (hm : Mem m) (hs : Sl w B2 a2 (i64s m)) (hB2 : B2 ≤ w.heap.size) (hC : CntI w r n (cnt R)) :
    Calls Try.prog 55 #[.slice a2 k c2, .map (some r)] w fun e w' => e = .returned (.int .i64 (poorTo m R m.length)) ∧ w' = w := by
  obtain ⟨b2, o2, rfl, hb2, hc⟩ := hs.ints (by omega)
  have r0 := hc 0 (by omega)
  rw [Nat.add_zero] at r0
  have hb2w : b2 < w.heap.size := by omega
  have HK := Lib.hid hk
  have HM := Lib.hid hm
  have HC := Lib.hid hC
  have HR := Lib.hid hR
  have HCC := Lib.hid hc
  obtain ⟨x0, hx0⟩ : ∃ x, m.getD 0 0 = x := ⟨_, rfl⟩
  rw [hx0] at r0
  have HX0 := Lib.hid (show x0 = poorTo m R 0 by rw [poorTo, hx0])
  have hk0 : (0 : Int) < (k : Int) := by omega
  clear hk hm hC hR hc hx0 hs
  go_enter Try.func55, Try.ntmps55
  go_upto_region 2 with fail
  clear r0 hk0
  go_wp2_with fail
  go_loopw [5, 13] (fun P J wr => ∃ (j : Nat) (y : Int), j ≤ k ∧ P = .int .i64 y ∧ J = .int .i64 j ∧ Hid (y = poorTo m R j) ∧ wr = w) (fun _ J _ => k - (intOf J).toNat)
  case atStart => exact ⟨0, x0, by omega, rfl, rfl, HX0, rfl⟩
  case round =>
    obtain ⟨j, y, hj, rfl, rfl, HY, hwr⟩ := hrel
    subst hwr
    by_cases hlt : j < k
    · have hji : (j : Int) < (k : Int) := by omega
      have hj0 : 0 ≤ (j : Int) := by omega
      have rj := HCC.out j (by rw [HK.out]; exact hlt)
      obtain ⟨x, hx⟩ : ∃ x, m.getD j 0 = x := ⟨_, rfl⟩
      rw [hx] at rj
      have HX := Lib.hid hx
      have hxm : x ∈ m := by rw [← hx]; exact memGet (m := m) (by rw [HK.out]; exact hlt)
      have hym : y ∈ m := by rw [HY.out]; exact poorTo_mem (by rw [HK.out]; omega) j (by rw [HK.out]; exact hj)
      have hl1 := HC.out.look (HM.out.2.1 x hxm) (HM.out.2.2 x hxm)
      have hl2 := HC.out.look (HM.out.2.1 y hym) (HM.out.2.2 y hym)
      obtain ⟨cx, hcx⟩ : ∃ cx, cnt R x = cx := ⟨_, rfl⟩
      obtain ⟨cy, hcy⟩ : ∃ cy, cnt R y = cy := ⟨_, rfl⟩
      have HY1 := Lib.hid (show poorTo m R (j + 1) = if cx < cy then x else y by rw [poorTo, HX.out, ← HY.out, hcx, hcy])
      have hcx1 : cx ≤ 64 := by have := cnt_le R x; have := HR.out; omega
      have hcy1 : cy ≤ 64 := by have := cnt_le R y; have := HR.out; omega
      rw [hcx] at hl1
      rw [hcy] at hl2
      have Hwj := Lib.hid (show IntKind.i64.wrap ((j : Int) + 1) = ((j + 1 : Nat) : Int) by rw [IntWalk.i64_in _ (by omega)]; omega)
      clear hx hxm hym hcx hcy
      by_cases hc : cx < cy
      · have hci : (cx : Int) < (cy : Int) := by omega
        have HY2 := Lib.hid (show x = poorTo m R (j + 1) by rw [HY1.out, if_pos hc])
        clear hc
        go_upto_region 7 with fail
        clear hl1 hl2 rj
        have hwj := Hwj.out
        go_wp2_with fail
        go_roundw
        case rel => exact ⟨j + 1, x, by omega, rfl, by go_num, HY2, trivial⟩
        case measure => simp [intOf]; omega
      · have hci : ¬ (cx : Int) < (cy : Int) := by omega
        have HY2 := Lib.hid (show y = poorTo m R (j + 1) by rw [HY1.out, if_neg hc])
        clear hc
        go_upto_region 7 with fail
        clear hl1 hl2 rj
        have hwj := Hwj.out
        go_wp2_with fail
        go_roundw
        case rel => exact ⟨j + 1, y, by omega, rfl, by go_num, HY2, trivial⟩
        case measure => simp [intOf]; omega
    · obtain rfl : j = k := by omega
      go_wp2_with fail
      go_ret
      exact ⟨by rw [HK.out, ← HY.out]; rfl, rfl⟩
set_option maxRecDepth 100000 in
theorem sticky_bad (x : Int) (a a3 : Option Addr) (N c N3 c3 : Nat) (w : World) (hd : (decide (1 ≤ x) && decide (x ≤ 64)) = false) : Calls Try.prog 38 #[.int .i64 x, .slice a N c, .slice a3 N3 c3] w (ArgPost w) := by
  have HV := Lib.hid (valid_walk x w false hd)
  clear hd
  go_enter Try.func38, Try.ntmps38
  go_wp2_with fail
  refine HV.out.mono ?_
  rintro e w1 ⟨rfl, b1⟩
  go_wp2_with fail
  go_ret2
  exact ⟨rfl, b1⟩
set_option maxRecDepth 100000 in
set_option maxHeartbeats 16000000 in
theorem sticky_walk (M : Nat) (l old : List Int) (N N3 : Nat) (a a3 : Option Addr) (c c3 B : Nat) (w : World) (hM1 : 1 ≤ M) (hM2 : M ≤ 64) (hN : l.length = N) (hNm : N ≤ 1000) (hN3 : old.length = N3) (hN3m : N3 ≤ 1000) (hwl : ∀ x ∈ l, (Lit.int .i64 x).wf = true) (hwo : ∀ x ∈ old, (Lit.int .i64 x).wf = true) (h : Sl w B a (i64s l)) (h3 : Sl w B a3 (i64s old)) (hB : B ≤ w.heap.size) :
    Calls Try.prog 38 #[.int .i64 (M : Int), .slice a N c, .slice a3 N3 c3] w fun e w' => ∃ m, MemIs l m ∧ RowPost (stickyL M m old) M w e w' := by
  obtain ⟨i0, hi, hz0, hz1, hz2⟩ := info_parts info_i64
  have HV := Lib.hid (valid_walk (M : Int) w true (by rw [decide_eq_true (by omega), decide_eq_true (by omega)]; rfl))
  have HN := Lib.hid hN
  have HS := Lib.hid h
  have HN3 := Lib.hid hN3
  have HS3 := Lib.hid h3
  have HWL := Lib.hid hwl
  have HWO := Lib.hid hwo
  clear hN h hN3 h3 hwl hwo
  go_enter Try.func38, Try.ntmps38
  go_wp2_with fail
  refine HV.out.mono ?_
  rintro e w1 ⟨rfl, b1⟩
  have hw1z := b1.size
  clear HV
  have hMi : 0 ≤ (M : Int) := by omega
  go_wp2_with (at_make; refine wpList_make_full _ rfl _ _ 22 rfl w1.heap.size 3 i0 (.int .i64 0) 1 Try.underlying22 hi hz0 hz1 .i64 .i64 _ _ M rfl rfl rfl rfl (by rw [hz2]; omega) (by unfold maxLen; omega) (Nat.le_refl _) ?_; intro w0 own0 grow0)
  rw [ints_made] at own0
  have hb0 : Below w1.heap.size w1 w0 := (Below.refl _ _).grown grow0 (Nat.le_refl _) (fun k hk => by cases hk)
  obtain ⟨g, hg⟩ : ∃ g, w1.heap.size = g := ⟨_, rfl⟩
  have own1 : w0.ownsRow w.heap.size 3 1 (.slice (some ⟨g, 0, none⟩) M M) M (i64s (part [] M)) := own_base (by rw [← hg]; exact own0) hw1z
  have hb0' : Below w.heap.size w w0 := b1.trans (hb0.mono hw1z)
  rw [hg]
  have hgg : w.heap.size ≤ g := by omega
  clear hg own0 grow0
  have hw0z := hb0'.size
  have KC := Lib.hid (clean_walk l N a c B w0 HN.out hNm (HS.out.below (hb0'.mono (Nat.le_refl _)) hB) (by omega))
  clear hb0
  go_wp2_with fail
  refine KC.out.mono ?_
  rintro e w2 ⟨m, a2, c2, hm, rfl, hsl, hnew, b2⟩
  obtain ⟨g', e', _, hgw0, _, _⟩ := ownN_at own1 (by omega)
  injection e' with e'
  injection e' with e' _ _
  subst e'
  have own2 := own_keep own1 b2
  have hb2 := hb0'.trans (b2.mono hw0z)
  have hml : m.length ≤ 1000 := by have := memIs_len hm; rw [HN.out] at this; omega
  obtain ⟨k, hk⟩ : ∃ k, m.length = k := ⟨_, rfl⟩
  rw [hk] at hml ⊢
  have HK := Lib.hid hk
  have HMI := Lib.hid hm
  have hw2z := b2.size
  have HO2 := Lib.hid own2
  have HSl := Lib.hid hsl
  clear KC hm hk own1 own2 HS HN hsl
  rcases Nat.eq_zero_or_pos k with hk0 | hk0
  · subst hk0
    have hm0 : m = [] := List.eq_nil_of_length_eq_zero HK.out
    go_wp2_with fail
    go_ret2
    refine ⟨m, HMI.out, g, rfl, ?_, hb2⟩
    have e : part [] M = stickyL M m old := by unfold stickyL; rw [if_pos hm0]; simp [part]
    rw [← e]; exact HO2.out
  · have hkz : ((k : Int) == 0) = false := beq_eq_false_iff_ne.2 (by omega)
    have hMm := mem_of HMI.out HWL.out
    have hs2 : ∀ x, a2 = some x → x.block ≠ g := fun x hx => by have := hnew x hx; omega
    have HME := Lib.hid hMm
    have KK := Lib.hid (keep_walk M k N3 g w.heap.size w2.heap.size B c2 c3 m old a2 a3 w2 hM1 hM2 HK.out (by omega) hml hMm HN3.out hN3m HWO.out HO2.out HSl.out hs2 (Nat.le_refl _) (HS3.out.below hb2 hB) hB hb2.size)
    clear hMm
    go_wp2_with fail
    refine KK.out.mono ?_
    rintro e w3 ⟨r, rfl, hrw, hC3, hO3, hS3, hb3, hz3⟩
    obtain ⟨R0, hR0⟩ : ∃ R0, keepTo M m old (min M N3) = R0 := ⟨_, rfl⟩
    have HR0 := Lib.hid hR0
    rw [hR0] at hC3 hO3
    have HR0l := Lib.hid (show R0.length = M by rw [← hR0, keepTo_len])
    have HC3 := Lib.hid hC3
    have HO3 := Lib.hid hO3
    have HS4 := Lib.hid hS3
    have hb3' := hb2.trans hb3
    have hrg : r ≠ g := by omega
    clear KK hR0 hC3 hO3 hS3 HO2 HSl
    go_wp2_with fail
    go_loopw [30] (fun I wr => ∃ (i : Nat) (R : List Int), i ≤ M ∧ I = .int .i64 i ∧ Hid (R = fillTo m R0 i) ∧ CntI wr r (64 + i) (cnt R) ∧ wr.ownsRow w.heap.size 3 1 (.slice (some ⟨g, 0, none⟩) M M) M (i64s R) ∧ Sl wr w2.heap.size a2 (i64s m) ∧ Below w.heap.size w wr ∧ w2.heap.size ≤ wr.heap.size) (fun I _ => M - (intOf I).toNat)
    case atStart => exact ⟨0, R0, by omega, rfl, Lib.hid rfl, HC3.out, HO3.out, HS4.out, hb3', by omega⟩
    case round =>
      obtain ⟨i, R, hiM, rfl, HR, hC, hO, hS, hb, hz⟩ := hrel
      by_cases hlt : i < M
      · have hli : (i : Int) < (M : Int) := by omega
        have hi0 : 0 ≤ (i : Int) := by omega
        obtain ⟨_, e', hbg, hgw3, hfr, hct⟩ := ownN_at hO (by omega)
        injection e' with e'
        injection e' with e' _ _
        subst e'
        have HRl := Lib.hid (show R.length = M by rw [HR.out, fillTo_len, HR0l.out])
        have c0 := hct i _ (i64s_get R i (by rw [HRl.out]; exact hlt))
        have f0 := hfr i
        obtain ⟨v, hv⟩ : ∃ v, R.getD i 0 = v := ⟨_, rfl⟩
        rw [hv] at c0
        have HV := Lib.hid hv
        have HF1 := Lib.hid (show fillTo m R0 (i + 1) = step2 m R i by rw [fillTo, ← HR.out])
        have Hwi := Lib.hid (show IntKind.i64.wrap ((i : Int) + 1) = ((i + 1 : Nat) : Int) by rw [IntWalk.i64_in _ (by omega)]; omega)
        have HC := Lib.hid hC
        have HO := Lib.hid hO
        have HSr := Lib.hid hS
        clear hv hct hfr hC hO hS
        by_cases hv0 : v = 0
        · subst hv0
          have HP := Lib.hid (poorest_walk R m k r (64 + i) w2.heap.size c2 a2 wr (by rw [HRl.out]; exact hM2) HK.out (by omega) hml HME.out HSr.out hz HC.out)
          obtain ⟨x, hx⟩ : ∃ x, poorTo m R m.length = x := ⟨_, rfl⟩
          rw [hx] at HP
          have hxm : x ∈ m := by rw [← hx]; exact poorTo_mem (by rw [HK.out]; exact hk0) _ (Nat.le_refl _)
          have HX0 := Lib.hid (HME.out.2.1 x hxm)
          have HXw := Lib.hid (HME.out.2.2 x hxm)
          have HR2 := Lib.hid (show R.set i x = fillTo m R0 (i + 1) by rw [HF1.out]; unfold step2; rw [if_pos HV.out, hx])
          obtain ⟨q, hq⟩ : ∃ q, cnt R x = q := ⟨_, rfl⟩
          have HCX := Lib.hid hq
          have hqM : q ≤ 64 := by have := cnt_le R x; rw [hq, HRl.out] at this; omega
          have HG := Lib.hid (show cnt (R.set i x) x = q + 1 ∧ ∀ y, 0 < y → y ≠ x → cnt (R.set i x) y = cnt R y by
            have hxp := HX0.out
            have h := cnt_set (l := R) (i := i) (o := x) (by rw [HRl.out]; exact hlt) HV.out (by omega)
            exact ⟨by rw [h.1, hq], fun y hy hyx => h.2 y hyx (by omega)⟩)
          have own5 := ownN_store (u := .int .i64 x) HO.out (j := i) (by rw [i64s_len, HRl.out]; exact hlt)
          rw [← i64s_set] at own5
          have HO4 := Lib.hid own5
          have hb5 := hb.setCell (p := ⟨g, i, none⟩) hbg (.int .i64 x)
          have hz5 : (wr.setCell ⟨g, i, none⟩ (.int .i64 x)).heap.size = wr.heap.size := World.size_setCell _ _ _
          have HS5 := Lib.hid (HSr.out.set_far (g := g) (j := i) hs2 (.int .i64 x))
          have HC5 := Lib.hid (HC.out.far (g := g) (j := i) hrg (.int .i64 x))
          obtain ⟨D, hD, hD1, hD2⟩ := HC5.out
          have HDm := Lib.hid hD
          have HD1 := Lib.hid hD1
          have HD2 := Lib.hid hD2
          have hl5 := HC5.out.look HX0.out HXw.out
          rw [HCX.out] at hl5
          have Hwc := Lib.hid (show IntKind.i64.wrap ((q : Int) + 1) = (q : Int) + 1 by rw [IntWalk.i64_in _ (by omega)])
          have HE := Lib.hid hgw3
          clear own5 hD hD1 hD2 hx hxm hq
          go_upto_region 12 with fail
          go_wp2_with fail
          refine HP.out.mono ?_
          rintro e w4 ⟨rfl, hw4⟩
          subst hw4
          go_upto_region 14 with fail
          clear c0 f0
          obtain ⟨w5, hw5⟩ : ∃ w5, w5 = w4.setCell ⟨g, i, none⟩ (.int .i64 x) := ⟨_, rfl⟩
          rw [← hw5] at HO4 hb5 hz5 HS5 HC5 HDm hl5 ⊢
          clear hw5
          have hwc := Hwc.out
          go_wp2_with (at_mapUpdate; refine wpList_mapUpdate_own _ rfl _ _ _ 70 rfl 3 3 lawI Try.underlying70 (plainElem Try.prog 3) r (64 + i) D rfl HDm.out (by unfold maxLen; omega) _ _ _ rfl rfl (Maps.keyOf_int_mk Try.underlying3 HXw.out) (.lit (.int .i64 ((q : Int) + 1))) [] (by refine plainElem_int Try.underlying3 ?_; exact nat_wf1 (by omega)) ?_)
          intro w6 ownM g6
          rw [show ((q : Int) + 1) = ((q + 1 : Nat) : Int) from by omega] at ownM
          have HC4 := Lib.hid (cntI_put (G := cnt (R.set i x)) HD1.out HD2.out ownM HG.out.1 HG.out.2)
          have hz6 := g6.size
          have HO6 := Lib.hid (HO4.out.kept g6 (.inr (fun hh => hrg (by injection hh with hh; exact hh.symm))))
          have HS6 := Lib.hid (show Sl w6 w2.heap.size a2 (i64s m) by
            rcases HS5.out with h | ⟨b, off, e1, hlt1, hc⟩
            · exact .inl h
            · subst e1
              exact HS5.out.grown g6 (fun y hy => by injection hy with hy; subst hy; show b ≠ r; omega) (by omega))
          have hb6 := hb5.grown g6 (by omega) (fun k hk => by cases hk; omega)
          clear ownM g6 hwc hl5
          have hwi := Hwi.out
          go_wp2_with fail
          go_roundw
          case rel => exact ⟨i + 1, R.set i x, by omega, by go_num, HR2, HC4.out, HO6.out, HS6.out, hb6, by omega⟩
          case measure => simp [intOf]; omega
        · have hv1 : (v == 0) = false := beq_eq_false_iff_ne.2 hv0
          have HR2 := Lib.hid (show R = fillTo m R0 (i + 1) by rw [HF1.out]; unfold step2; rw [if_neg (by rw [HV.out]; exact hv0)])
          clear hv0
          go_upto_region 15 with fail
          clear c0 f0
          have hwi := Hwi.out
          go_wp2_with fail
          go_roundw
          case rel => exact ⟨i + 1, R, by omega, by go_num, HR2, HC.out.mono (by omega), HO.out, HSr.out, hb, hz⟩
          case measure => simp [intOf]; omega
      · obtain rfl : i = M := by omega
        go_wp2_with fail
        go_ret2
        refine ⟨m, HMI.out, g, rfl, ?_, hb⟩
        have e : R = stickyL i m old := by
          unfold stickyL
          rw [if_neg (by intro h; have := HK.out; rw [h] at this; simp at this; omega), HN3.out, HR0.out]
          exact HR.out
        rw [← e]; exact hO
end Go.Proofs.Ytafibgekikjlhaa
