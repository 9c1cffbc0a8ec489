/- The walk of assign's keep. -/
import Derived.Test.YtafibgekikjlhaaAsCnt
namespace Go.Proofs.Ytafibgekikjlhaa
open Go.RowKit Vm As
set_option linter.unusedVariables false
set_option linter.unusedSimpArgs false

/-- What keep leaves: the owners R, the counts at block r. -/
def KeepPost (R m : List Int) (M g base B2 : Nat) (a2 : Option Addr) (w : World) (e : Ending) (w' : World) : Prop :=
  ∃ r, e = .returned (.map (some r)) ∧ w.heap.size ≤ r ∧ CntI w' r 64 (cnt R) ∧ w'.ownsRow base 3 1 (.slice (some ⟨g, 0, none⟩) M M) M (i64s R) ∧ Sl w' B2 a2 (i64s m) ∧ Below base w w' ∧ w.heap.size ≤ w'.heap.size
set_option pp.deepTerms true in
set_option pp.maxSteps 100000 in
set_option pp.deepTerms true in
set_option pp.maxSteps 100000 in
set_option maxRecDepth 100000 in
set_option maxHeartbeats 16000000 in
theorem keep_walk (M k N g base B2 B3 c2 c3 : Nat) (m old : List Int) (a2 a3 : Option Addr) (w : World) (hM1 : 1 ≤ M) (hM2 : M ≤ 64) (hk : m.length = k) (hk1 : 1 ≤ k) (hk2 : k ≤ 1000) (hm : Mem m)
    (hN : old.length = N) (hN2 : N ≤ 1000) (hw3 : ∀ x ∈ old, (Lit.int .i64 x).wf = true)
    (own : w.ownsRow base 3 1 (.slice (some ⟨g, 0, none⟩) M M) M (i64s (part [] M))) (hs : Sl w B2 a2 (i64s m)) (hs2 : ∀ x, a2 = some x → x.block ≠ g) (hB2 : B2 ≤ w.heap.size) (ho : Sl w B3 a3 (i64s old)) (hB3 : B3 ≤ base) (hbase : base ≤ w.heap.size) :
    Calls Try.prog 54 #[.slice (some ⟨g, 0, none⟩) M M, .slice a2 k c2, .slice a3 N c3] w (KeepPost (keepTo M m old (min M N)) m M g base B2 a2 w) := by
  have hmm := @run_makeMap Try.prog
  obtain ⟨g', e', hbg, hgw, _, _⟩ := ownN_at own (by omega)
  injection e' with e'
  injection e' with e' _ _
  subst e'
  obtain ⟨q, hq⟩ : ∃ q, M / k = q := ⟨_, rfl⟩
  obtain ⟨rs, hrs⟩ : ∃ rs, M % k = rs := ⟨_, rfl⟩
  have hqM : q ≤ 64 := by have := Nat.div_le_self M k; omega
  have hrM : rs ≤ 64 := by have := Nat.mod_le M k; omega
  have Hqd := Lib.hid (show wrap64 ((M : Int) / (k : Int)) = (q : Int) by
    rw [← Int.natCast_ediv, hq, IntWalk.wrap64_in _ (by omega)])
  have Hrd := Lib.hid (show (M : Int) % (k : Int) = (rs : Int) by rw [← Int.natCast_emod, hrs])
  have hk0 : ((k : Int) == 0) = false := beq_eq_false_iff_ne.2 (by omega)
  have HQ := Lib.hid hq
  have HRS := Lib.hid hrs
  have HK := Lib.hid hk
  have HN := Lib.hid hN
  have HM := Lib.hid hm
  have HS := Lib.hid hs
  have HW := Lib.hid hw3
  have HO := Lib.hid ho
  have HOw := Lib.hid own
  clear hq hrs hk hN hm hs hw3 ho own
  go_enter Try.func54, Try.ntmps54
  go_upto_region 1 with fail
  go_quiet (fail)
  rw [Hqd.out, Hrd.out]
  clear hk0
  obtain ⟨w0, hw0⟩ : ∃ w0, w0 = w.drewN nq := ⟨_, rfl⟩
  have hd0 : Below w.heap.size w w0 := by rw [hw0]; exact below_drewN _ _ _
  rw [← hw0]
  clear hw0 nq
  have hz0 := hd0.size
  have hal := balloc w0 (.map #[] 0)
  have HC1 := Lib.hid (CntI.made w0 (cnt (List.replicate M 0)) (fun x hx => cnt_zero M x hx))
  go_wp2_with fail
  obtain ⟨r, hr⟩ : ∃ r, w0.heap.size = r := ⟨_, rfl⟩
  obtain ⟨w1, hw1⟩ : ∃ w1, w1 = w0.alloc (.map #[] 0) := ⟨_, rfl⟩
  have hz1s : w1.heap.size = w0.heap.size + 1 := by rw [hw1]; simp
  rw [← hw1] at hal HC1 ⊢
  rw [hr] at HC1 hz1s ⊢
  have hrg : r ≠ g := by omega
  have hb1 : Below w.heap.size w w1 := hd0.trans (hal.mono (by omega))
  have HO1 := Lib.hid (own_keep HOw.out hb1)
  have HS1 := Lib.hid (HS.out.below hb1 hB2)
  have hb1' := hb1.mono hbase
  clear hw1 hal hmm HOw
  have hne0 : m ≠ [] := fun h => by have := HK.out; rw [h] at this; simp at this; omega
  have hrb : m ≠ [] → ∀ y, a2 = some y → y.block < w.heap.size := fun hne y hy => by
    rcases HS.out with h | ⟨b, off, e, hlt, _⟩
    · exact absurd (List.eq_nil_of_length_eq_zero (by have := congrArg List.length h; rw [i64s_len] at this; exact this)) hne
    · rw [e] at hy; injection hy with hy; subst hy; show b < _; omega
  obtain ⟨lm, hlm⟩ : ∃ lm, min M N = lm := ⟨_, rfl⟩
  have hlm1 : lm ≤ M := by omega
  have hlm2 : lm ≤ N := by omega
  have hlmi : min (M : Int) (N : Int) = (lm : Int) := by omega
  rw [hlmi]
  clear hlmi
  go_loopw [10, 31] (fun A I wr => ∃ (i : Nat) (R : List Int), i ≤ lm ∧ Hid (R = keepTo M m old i) ∧ A = .int .i64 ((abv R m q : Nat) : Int) ∧ I = .int .i64 i ∧ CntI wr r i (cnt R) ∧ wr.ownsRow base 3 1 (.slice (some ⟨g, 0, none⟩) M M) M (i64s R) ∧ Sl wr B2 a2 (i64s m) ∧ Below base w wr ∧ w.heap.size + 1 ≤ wr.heap.size) (fun _ I _ => lm - (intOf I).toNat)
  case atStart => 
    refine ⟨0, List.replicate M 0, by omega, Lib.hid rfl, ?_, rfl, HC1.out, ?_, HS1.out, hb1', by omega⟩
    · rw [abv_zero m M q HM.out.2.1]; rfl
    · have := HO1.out
      unfold part at this
      simpa using this
  case round =>
    obtain ⟨i, R, hil, HR, rfl, rfl, hC, hO, hS, hb, hbz⟩ := hrel
    by_cases hlt : i < lm
    · have hli : (i : Int) < (lm : Int) := by omega
      have hi0 : 0 ≤ (i : Int) := by omega
      have hiN : (i : Int) < (N : Int) := by omega
      have hiM : (i : Int) < (M : Int) := by omega
      obtain ⟨b3, o3, rfl, hb3g, hc3⟩ := (HO.out.below (hb1.mono hbase) hB3).ints (by rw [HN.out]; omega)
      have r0 : wr.cell? ⟨b3, o3 + i, none⟩ = some (.int .i64 (old.getD i 0)) := by
        have e1 := (hb.cell (p := ⟨b3, o3 + i, none⟩) (by show b3 < base; omega))
        have e2 := (hb1'.cell (p := ⟨b3, o3 + i, none⟩) (by show b3 < base; omega))
        rw [e1, ← e2]
        exact hc3 i (by rw [HN.out]; omega)
      have hz3 : b3 < wr.heap.size := by omega
      have hxo : old.getD i 0 ∈ old := by
        have hl : i < old.length := by rw [HN.out]; omega
        rw [show old.getD i 0 = old[i] from by simp [List.getD, hl]]
        exact List.getElem_mem hl
      obtain ⟨x, hx⟩ : ∃ x, old.getD i 0 = x := ⟨_, rfl⟩
      rw [hx] at r0 hxo
      have HXw := Lib.hid (HW.out x hxo)
      have HX := Lib.hid hx
      have HCr := Lib.hid hC
      have HOr := Lib.hid hO
      have HSr := Lib.hid hS
      obtain ⟨b2, o2, rfl, hb2g, hc2⟩ := hS.ints (by rw [HK.out]; omega)
      have HB := Lib.hid (Try.slices_BinarySearch_int b2 o2 k c2 m x wr (by rw [HK.out]; exact Nat.le_refl _) (by omega) hc2 (by rw [List.take_of_length_le (by rw [HK.out]; exact Nat.le_refl _)]; exact HM.out.1.imp (fun h => Int.le_of_lt h)))
      have HRl := Lib.hid (show R.length = M by rw [HR.out, keepTo_len])
      have HR0 := Lib.hid (show R.getD i 0 = 0 by rw [HR.out]; exact keepTo_zero M m old i i (Nat.le_refl _))
      have HR1 := Lib.hid (show keepTo M m old (i + 1) = step1 q rs m R i x by rw [keepTo, ← HR.out, HX.out, HK.out, HQ.out, HRS.out])
      have Hwi := Lib.hid (show IntKind.i64.wrap ((i : Int) + 1) = ((i + 1 : Nat) : Int) by rw [IntWalk.i64_in _ (by omega)]; omega)
      clear hc3 hxo hx hC hO hS hc2
      go_upto_region 8 with fail
      clear r0
      go_wp2_with fail
      refine HB.out.mono ?_
      rintro e w3 ⟨rfl, nq, hw3⟩
      have hd3 : Below wr.heap.size wr w3 := by rw [hw3]; exact below_drewN _ _ _
      have HC3 := Lib.hid (HCr.out.below hd3)
      have HO3 := Lib.hid (own_keep HOr.out hd3)
      have HS3 := Lib.hid (HSr.out.below hd3 (by omega))
      have hz3s := hd3.size
      have hb3 := hb.trans (hd3.mono (by omega))
      rw [List.take_of_length_le (by rw [HK.out]; exact Nat.le_refl _)]
      generalize List.countP (fun y => decide (y < x)) m = cp
      clear hw3 nq hd3 HB HCr HOr HSr
      by_cases hmem : x ∈ m
      · have hcm : m.contains x = true := by simpa using hmem
        rw [hcm]
        have HX0 := Lib.hid (HM.out.2.1 x hmem)
        obtain ⟨c, hc⟩ : ∃ c, cnt R x = c := ⟨_, rfl⟩
        have HCX := Lib.hid hc
        have hcM : c ≤ 64 := by have := cnt_le R x; rw [hc, HRl.out] at this; omega
        obtain ⟨ab, hab⟩ : ∃ ab, abv R m q = ab := ⟨_, rfl⟩
        have HAB := Lib.hid hab
        have habk : ab ≤ 1000 := by have := abv_le R m q; rw [hab, HK.out] at this; omega
        have HG := Lib.hid (show cnt (R.set i x) x = c + 1 ∧ ∀ y, 0 < y → y ≠ x → cnt (R.set i x) y = cnt R y by
          have hxp := HX0.out
          have h := cnt_set (l := R) (i := i) (o := x) (by rw [HRl.out]; omega) HR0.out (by omega)
          exact ⟨by rw [h.1, hc], fun y hy hyx => h.2 y hyx (by omega)⟩)
        have HAV := Lib.hid (abv_set (n := q) HM.out.1 HM.out.2.1 hmem (show i < R.length by rw [HRl.out]; omega) HR0.out)
        have hlk := HC3.out.look HX0.out HXw.out
        rw [hc] at hlk
        rw [hab]
        obtain ⟨_, e', _, hgw3, hfr, hct⟩ := ownN_at HO3.out (by omega)
        injection e' with e'
        injection e' with e' _ _
        subst e'
        clear hc hab hcm
        by_cases hcq : c < q
        · have hcqi : (c : Int) < (q : Int) := by omega
          have HR2 := Lib.hid (show R.set i x = keepTo M m old (i + 1) by rw [HR1.out]; unfold step1; rw [if_pos ⟨hmem, .inl (by rw [HCX.out]; exact hcq)⟩])
          have HAE := Lib.hid (show abv (R.set i x) m q = ab by rw [HAV.out.1 (by rw [HCX.out]; exact hcq), HAB.out])
          clear hmem
          have c0 := hct i _ (i64s_get R i (by rw [HRl.out]; omega))
          have f0 := hfr i
          have own5 := ownN_store (u := .int .i64 x) HO3.out (j := i) (by rw [i64s_len, HRl.out]; omega)
          rw [← i64s_set] at own5
          have HO4 := Lib.hid own5
          have hb5 := hb3.setCell (p := ⟨g, i, none⟩) hbg (.int .i64 x)
          have hz5 : (w3.setCell ⟨g, i, none⟩ (.int .i64 x)).heap.size = w3.heap.size := World.size_setCell _ _ _
          have HS5 := Lib.hid (HS3.out.set_far (g := g) (j := i) hs2 (.int .i64 x))
          have HC5 := Lib.hid (HC3.out.far (g := g) (j := i) hrg (.int .i64 x))
          obtain ⟨D, hD, hD1, hD2⟩ := HC5.out
          have HDm := Lib.hid hD
          have HD1 := Lib.hid hD1
          have HD2 := Lib.hid hD2
          have hl5 := HC5.out.look HX0.out HXw.out
          rw [HCX.out] at hl5
          have Hwc := Lib.hid (show IntKind.i64.wrap ((c : Int) + 1) = (c : Int) + 1 by rw [IntWalk.i64_in _ (by omega)])
          clear hct hfr own5 hD hD1 hD2
          go_upto_region 14 with fail
          clear c0 f0 hlk
          obtain ⟨w5, hw5⟩ : ∃ w5, w5 = w3.setCell ⟨g, i, none⟩ (.int .i64 x) := ⟨_, rfl⟩
          rw [← hw5] at HO4 hb5 hz5 HS5 HC5 HDm hl5 ⊢
          clear hw5
          have hwc := Hwc.out
          go_wp2_with (at_mapUpdate; refine wpList_mapUpdate_own _ rfl _ _ _ 70 rfl 3 3 lawI Try.underlying70 (plainElem Try.prog 3) r i D rfl HDm.out (by unfold maxLen; omega) _ _ _ rfl rfl (Maps.keyOf_int_mk Try.underlying3 HXw.out) (.lit (.int .i64 ((c : Int) + 1))) [] (by refine plainElem_int Try.underlying3 ?_; exact nat_wf1 (by omega)) ?_)
          intro w6 ownM g6
          rw [show ((c : Int) + 1) = ((c + 1 : Nat) : Int) from by omega] at ownM
          have HC4 := Lib.hid (cntI_put (G := cnt (R.set i x)) HD1.out HD2.out ownM HG.out.1 HG.out.2)
          have hz6 := g6.size
          have HO6 := Lib.hid (HO4.out.kept g6 (.inr (fun hh => hrg (by injection hh with hh; exact hh.symm))))
          have HS6 := Lib.hid (HS5.out.grown g6 (fun y hy => by have := hrb hne0 y hy; omega) (by omega))
          have hb6 := hb5.grown g6 (by omega) (fun k hk => by cases hk; omega)
          clear ownM g6 hwc hl5
          have hwi := Hwi.out
          go_wp2_with fail
          go_roundw
          case rel => exact ⟨i + 1, R.set i x, by omega, HR2, by rw [HAE.out], by go_num, HC4.out, HO6.out, HS6.out, hb6, by omega⟩
          case measure => simp [intOf]; omega
        · by_cases hce : c = q ∧ ab < rs
          · have hcqi : ¬ (c : Int) < (q : Int) := by omega
            have hcqe : ((c : Int) == (q : Int)) = true := by rw [hce.1]; exact beq_self_eq_true _
            have habi : (ab : Int) < (rs : Int) := by omega
            have Hwab := Lib.hid (show IntKind.i64.wrap ((ab : Int) + 1) = (ab : Int) + 1 by rw [IntWalk.i64_in _ (by omega)])
            have HR2 := Lib.hid (show R.set i x = keepTo M m old (i + 1) by rw [HR1.out]; unfold step1; rw [if_pos ⟨hmem, .inr ⟨by rw [HCX.out]; exact hce.1, by rw [HAB.out]; exact hce.2⟩⟩])
            have HAE := Lib.hid (show abv (R.set i x) m q = ab + 1 by rw [HAV.out.2 (by rw [HCX.out]; exact hce.1), HAB.out])
            clear hmem hce hcq
            have c0 := hct i _ (i64s_get R i (by rw [HRl.out]; omega))
            have f0 := hfr i
            have own5 := ownN_store (u := .int .i64 x) HO3.out (j := i) (by rw [i64s_len, HRl.out]; omega)
            rw [← i64s_set] at own5
            have HO4 := Lib.hid own5
            have hb5 := hb3.setCell (p := ⟨g, i, none⟩) hbg (.int .i64 x)
            have hz5 : (w3.setCell ⟨g, i, none⟩ (.int .i64 x)).heap.size = w3.heap.size := World.size_setCell _ _ _
            have HS5 := Lib.hid (HS3.out.set_far (g := g) (j := i) hs2 (.int .i64 x))
            have HC5 := Lib.hid (HC3.out.far (g := g) (j := i) hrg (.int .i64 x))
            obtain ⟨D, hD, hD1, hD2⟩ := HC5.out
            have HDm := Lib.hid hD
            have HD1 := Lib.hid hD1
            have HD2 := Lib.hid hD2
            have hl5 := HC5.out.look HX0.out HXw.out
            rw [HCX.out] at hl5
            have Hwc := Lib.hid (show IntKind.i64.wrap ((c : Int) + 1) = (c : Int) + 1 by rw [IntWalk.i64_in _ (by omega)])
            clear hct hfr own5 hD hD1 hD2
            go_upto_region 12 with fail
            have hwab := Hwab.out
            go_upto_region 13 with fail
            clear hwab
            go_upto_region 14 with fail
            clear c0 f0 hlk
            obtain ⟨w5, hw5⟩ : ∃ w5, w5 = w3.setCell ⟨g, i, none⟩ (.int .i64 x) := ⟨_, rfl⟩
            rw [← hw5] at HO4 hb5 hz5 HS5 HC5 HDm hl5 ⊢
            clear hw5
            have hwc := Hwc.out
            go_wp2_with (at_mapUpdate; refine wpList_mapUpdate_own _ rfl _ _ _ 70 rfl 3 3 lawI Try.underlying70 (plainElem Try.prog 3) r i D rfl HDm.out (by unfold maxLen; omega) _ _ _ rfl rfl (Maps.keyOf_int_mk Try.underlying3 HXw.out) (.lit (.int .i64 ((c : Int) + 1))) [] (by refine plainElem_int Try.underlying3 ?_; exact nat_wf1 (by omega)) ?_)
            intro w6 ownM g6
            rw [show ((c : Int) + 1) = ((c + 1 : Nat) : Int) from by omega] at ownM
            have HC4 := Lib.hid (cntI_put (G := cnt (R.set i x)) HD1.out HD2.out ownM HG.out.1 HG.out.2)
            have hz6 := g6.size
            have HO6 := Lib.hid (HO4.out.kept g6 (.inr (fun hh => hrg (by injection hh with hh; exact hh.symm))))
            have HS6 := Lib.hid (HS5.out.grown g6 (fun y hy => by have := hrb hne0 y hy; omega) (by omega))
            have hb6 := hb5.grown g6 (by omega) (fun k hk => by cases hk; omega)
            clear ownM g6 hwc hl5
            have hwi := Hwi.out
            go_wp2_with fail
            go_roundw
            case rel => exact ⟨i + 1, R.set i x, by omega, HR2, by rw [HAE.out]; rfl, by go_num, HC4.out, HO6.out, HS6.out, hb6, by omega⟩
            case measure => simp [intOf]; omega
          · have hcqi : ¬ (c : Int) < (q : Int) := by omega
            have HR2 := Lib.hid (show R = keepTo M m old (i + 1) by
              rw [HR1.out]
              unfold step1
              rw [if_neg]
              rintro ⟨_, h | ⟨h1, h2⟩⟩
              · rw [HCX.out] at h; exact hcq h
              · rw [HCX.out] at h1; rw [HAB.out] at h2; exact hce ⟨h1, h2⟩)
            clear hmem hct hfr
            by_cases hce1 : c = q
            · have hcqe : ((c : Int) == (q : Int)) = true := by rw [hce1]; exact beq_self_eq_true _
              have habi : ¬ (ab : Int) < (rs : Int) := by omega
              clear hce hce1 hcq
              go_upto_region 15 with fail
              clear hlk
              have hwi := Hwi.out
              go_wp2_with fail
              go_roundw
              case rel => exact ⟨i + 1, R, by omega, HR2, by rw [HAB.out], by go_num, HC3.out.mono (by omega), HO3.out, HS3.out, hb3, by omega⟩
              case measure => simp [intOf]; omega
            · have hcqe : ((c : Int) == (q : Int)) = false := beq_eq_false_iff_ne.2 (by omega)
              clear hce hce1 hcq
              go_upto_region 15 with fail
              clear hlk
              have hwi := Hwi.out
              go_wp2_with fail
              go_roundw
              case rel => exact ⟨i + 1, R, by omega, HR2, by rw [HAB.out], by go_num, HC3.out.mono (by omega), HO3.out, HS3.out, hb3, by omega⟩
              case measure => simp [intOf]; omega
      · have hcm : m.contains x = false := by simpa using hmem
        rw [hcm]
        have HR2 := Lib.hid (show R = keepTo M m old (i + 1) by rw [HR1.out]; unfold step1; rw [if_neg (fun h => hmem h.1)])
        clear hmem hcm
        go_upto_region 15 with fail
        have hwi := Hwi.out
        go_wp2_with fail
        go_roundw
        case rel =>
          exact ⟨i + 1, R, by omega, HR2, rfl, by go_num, HC3.out.mono (by omega), HO3.out, HS3.out, hb3, by omega⟩
        case measure => simp [intOf]; omega
    · obtain rfl : i = lm := by omega
      go_wp2_with fail
      go_ret
      refine ⟨r, rfl, by omega, ?_, ?_, hS, hb, by omega⟩
      · rw [hlm, ← HR.out]; exact hC.mono (by omega)
      · rw [hlm, ← HR.out]; exact hO
end Go.Proofs.Ytafibgekikjlhaa
