/- The walk of GroupRises. -/
import Derived.Test.YtocmhmfaehnliaaGrRise
import Derived.Test.YtocmhmfaehnliaaGrSame
import Derived.BigQuiet
namespace Go.Proofs.Ytocmhmfaehnliaa
open Go.RowKit Vm As
set_option linter.unusedVariables false
set_option linter.unusedSimpArgs false

set_option maxRecDepth 100000 in
set_option maxHeartbeats 32000000 in
theorem groupRises_law (st : Bool) (l : List Gd) (a : Option Addr) (c : Nat) (w : World) (hl : Sl w w.heap.size a (gdCells l)) (hi : ∀ r ∈ l, GdI r) (hc : (a = none → c = 0) ∧ l.length ≤ c ∧ c ≤ maxLen) :
    Calls Try.prog 5 #[.bool st, .slice a l.length c] w fun e w' => e = .returned (.bool true) ∧ Below w.heap.size w w' := by
  have HOK := Lib.hid (fun k => runG_ok (l := l) (newG_ok (st := st) (show newOk 3 5 7 = true by decide)) k)
  have KN := Lib.hid (new_ga 3 st 5 7 w (by decide))
  unfold NewQ at KN
  have KD := Lib.hid (fun K x G g S w (hK : K ≤ 700) hok h => does_walk K x G g S w hK hok h)
  unfold DoQ at KD
  obtain ⟨N, hN⟩ : ∃ N, min l.length 120 = N := ⟨_, rfl⟩
  have hNm : N ≤ 120 := by omega
  have hNl : N ≤ l.length := by omega
  obtain ⟨n, hn⟩ : ∃ n, l.length = n := ⟨_, rfl⟩
  have KS := Lib.hid (fun w => some10_walk a n c w (by have h9 := hc.2.2; unfold maxLen at h9; omega) (by rw [← hn]; exact hc.2.1))
  rw [hn] at hN
  rw [hN] at KS
  have HS := Lib.hid hl
  have HNl := Lib.hid hNl
  have HAS := Lib.hid (fun k => asc_run (l := l) (newG_ok (st := st) (show newOk 3 5 7 = true by decide)) (by unfold Asc prs newG; simp) k)
  rw [hn]
  generalize hGZ : newG 3 st 5 7 = GZ at *
  have K7 := Lib.hid (fun w => awake10_walk w)
  clear hl hi hc hN hNl hn
  go_enter Try.func5, Try.ntmps5
  go_wp2_with fail
  refine KN.out.mono ?_
  rintro e w0 ⟨g, S0, rfl, A0, hZ0, b0⟩
  go_wp2_with fail
  refine (KS.out w0).mono ?_
  rintro e w1 ⟨rfl, rfl⟩
  clear KN KS
  go_wp2_with fail
  go_loopw [7] (fun I wr => ∃ (k : Nat) (S : Nat → Prop), k ≤ N ∧ I = .int .i64 k ∧ GA wr g (runG GZ l k) S ∧ Hid (∀ x, S x → w.heap.size ≤ x) ∧ Below w.heap.size w wr) (fun I _ => N - (intOf I).toNat)
  case atStart => exact ⟨0, S0, by omega, rfl, A0, hZ0, b0⟩
  case round =>
    obtain ⟨k, S, hk, rfl, A, hZ, hb⟩ := hrel
    clear A0 hZ0 b0
    by_cases hlt : k < N
    · have hlt2 : (k : Int) < (N : Int) := by omega
      have hk0 : 0 ≤ (k : Int) := by omega
      have HOKk := Lib.hid (HOK.out k)
      have HOK1 := Lib.hid (HOK.out (k + 1))
      have HASC := Lib.hid (HAS.out (k + 1))
      have HST := Lib.hid (stepR (aimF (l.getD k gd0) (runG GZ l k).L (runG GZ l k).g) (HOK.out k))
      have HRun : Hid (doesG (runG GZ l k) (l.getD k gd0) = runG GZ l (k + 1)) := Lib.hid rfl
      have hst : StepR (runG GZ l k) (runG GZ l (k + 1)) := HST.out
      generalize hG1 : runG GZ l (k + 1) = G' at *
      generalize hG0 : runG GZ l k = G at *
      have HG1 := Lib.hid hG1
      have hlG := HOKk.out.len
      have hlG' := HOK1.out.len
      have hgb0 := HOKk.out.g0
      have hgb1 := HOKk.out.g1
      have hnb0 := HOKk.out.n0
      have hnb1 := HOKk.out.n1
      have KG := Lib.hid (fun S w h => gen_ga G g S w h)
      have KN := Lib.hid (fun S w h => next_ga G g S w h)
      have KM := Lib.hid (fun S w h => members_ga G g S w (by omega) h)
      have KI := Lib.hid (fun w a c (h : Sl w w.heap.size a (mbCells G.L)) => ids_walk G.L G.L.length a c w rfl (by omega) h)
      have KG2 := Lib.hid (fun S w h => gen_ga G' g S w h)
      have KN3 := Lib.hid (fun S w h => next_ga G' g S w h)
      have KN2 := Lib.hid (fun S {wz : World} (nq : Nat) (h : GA wz g G' S) => gnext_same G' g S (wz.drewN nq) (h.keep (below_drewN _ wz nq)))
      have KM2 := Lib.hid (fun S w h => members_ga G' g S w (by omega) h)
      have KI2 := Lib.hid (fun w a c (h : Sl w w.heap.size a (mbCells G'.L)) => ids_walk G'.L G'.L.length a c w rfl (by omega) h)
      have KC := Lib.hid (fun x a c (w : World) (nq : Nat) (h : Sl w w.heap.size a (i64s (idsL G.L))) => rcount_walk (idsL G.L) G.L.length x a c w.heap.size (w.drewN nq) (idsL_len G.L) (by omega) (h.below (below_drewN w.heap.size w nq) (Nat.le_refl _)) (Nat.le_refl _))
      unfold RowQ at KM KM2
      obtain ⟨n0, hn0⟩ : ∃ n0, G.L.length = n0 := ⟨_, rfl⟩
      obtain ⟨n1, hn1⟩ : ∃ n1, G'.L.length = n1 := ⟨_, rfl⟩
      rw [hn0] at KM KI KC hlG
      rw [hn1] at KM2 KI2 hlG'
      have HL0 := Lib.hid hn0
      have HL1 := Lib.hid hn1
      obtain ⟨gx0, hgx0⟩ : ∃ x, G.g = x := ⟨_, rfl⟩
      obtain ⟨nx0, hnx0⟩ : ∃ x, G.n = x := ⟨_, rfl⟩
      obtain ⟨gx1, hgx1⟩ : ∃ x, G'.g = x := ⟨_, rfl⟩
      obtain ⟨nx1, hnx1⟩ : ∃ x, G'.n = x := ⟨_, rfl⟩
      have HN0 := Lib.hid hnx0
      have HN1 := Lib.hid hnx1
      rw [hgx0] at KG hgb0 hgb1
      rw [hnx0] at KN hnb0 hnb1
      rw [hgx1] at KG2
      rw [hnx1] at KN2 KN3
      unfold StepR at hst
      rw [hgx0, hnx0, hgx1, hnx1] at hst
      clear hn0 hn1 hgx0 hgx1 hnx0 hnx1 hG0 hG1 HOK HAS HST
      rcases hst with ⟨heq, e1, e2⟩ | ⟨hne, e1, e2, e3⟩
      · have HEQ := Lib.hid heq
        clear heq
        obtain rfl := e1
        obtain rfl := e2
        have hw1 : IntKind.i64.wrap (gx1 + 1) = gx1 + 1 := IntWalk.i64_in _ (by omega)
        have hw2 : IntKind.i64.wrap (nx1 + 1) = nx1 + 1 := IntWalk.i64_in _ (by omega)
        have KS2 := Lib.hid (fun w a b c d h1 h2 => same_dec (idsL G.L) (idsL G'.L) n0 n1 a b c d w true (by rw [idsL_len, HL0.out]) (by rw [idsL_len, HL1.out]) (by omega) (by omega) h1 h2 (by rw [HEQ.out]; simp))
        go_wp2_with fail
        refine (KG.out S _ A).mono ?_
        rintro e w2 ⟨rfl, h2⟩
        have A2 := A.keep h2
        have M2 := Mvs.below S h2
        clear A
        go_wp2_with fail
        refine (KN.out S _ A2).mono ?_
        rintro e w3 ⟨rfl, h3⟩
        have A3 := A2.keep h3
        have M3 := M2.trans (Mvs.below S h3)
        clear A2 M2
        go_wp2_with fail
        refine (KM.out S _ A3).mono ?_
        rintro e w4 ⟨a4, c4, rfl, p4, h4⟩
        have A4 := A3.keep h4
        have M4 := M3.trans (Mvs.below S h4)
        clear A3 M3
        go_wp2_with fail
        refine (KI.out _ _ _ p4.1).mono ?_
        rintro e w5 ⟨a5, c5, rfl, o5, h5⟩
        have A5 := A4.keep h5
        have M5 := M4.trans (Mvs.below S h5)
        have p5 := Apt.own (S := S) A4.live o5
        have D5 := (HS.out.below (hb.trans (M5.low hZ.out hb.size)) (Nat.le_refl _)).gd5 (k := k) (by have := HNl.out; omega)
        have HB5 := Lib.hid (hb.trans (M5.low hZ.out hb.size))
        obtain ⟨b1, o1, rfl, hb1, z0, z1, z2, z3, z4⟩ := D5
        have KDD := Lib.hid (KD.out k (l.getD k gd0) _ g S w5 (by omega) HOKk.out A5)
        have hz5 : b1 < w5.heap.size := by have := HB5.out.size; omega
        rw [HRun.out] at KDD
        generalize hx : l.getD k gd0 = x at *
        obtain ⟨xk, xa, xb, xp, xn⟩ := x
        unfold gdV at KDD
        simp only at z0 z1 z2 z3 z4 KDD
        clear hx A4 M4 o5 p4 h2 h3 h4 h5 KI KM KG KN
        go_wp2_with fail
        refine KDD.out.mono ?_
        rintro e w6 ⟨rfl, S6, A6, M6⟩
        have p6 := p5.mvs M6
        have B6 := HB5.out.trans (M6.low (M5.low2 hZ.out hb.size) HB5.out.size)
        have hZ6 := Lib.hid (M6.low2 (M5.low2 hZ.out hb.size) HB5.out.size)
        clear KDD A5 M5 p5 M6 hz5 z0 z1 z2 z3 z4 hb hZ HB5
        go_wp2_with fail
        refine (KM2.out _ _ A6).mono ?_
        rintro e w7 ⟨a7, c7, rfl, p7, h7⟩
        have A7 := A6.keep h7
        have p8 := p6.keep h7
        have B7 := B6.trans (h7.mono B6.size)
        clear A6 p6 B6
        go_wp2_with fail
        refine (KI2.out _ _ _ p7.1).mono ?_
        rintro e w8 ⟨a8, c8, rfl, o8, h8⟩
        have A8 := A7.keep h8
        have q8 := p8.keep h8
        have m8 := p7.keep h8
        have B8 := B7.trans (h8.mono B7.size)
        clear A7 p8 p7 B7
        go_wp2_with fail
        refine (KS2.out _ _ _ _ _ q8.1 (ownN_sl o8)).mono ?_
        rintro e w9 ⟨rfl, h9⟩
        have A9 := A8.keep h9
        have q9 := q8.keep h9
        have m9 := m8.keep h9
        have B9 := B8.trans (h9.mono B8.size)
        clear A8 q8 m8 B8 o8 KS2
        go_wp2_with fail
        refine (KG2.out _ _ A9).mono ?_
        rintro e w10 ⟨rfl, h10⟩
        have A10 := A9.keep h10
        have q10 := q9.keep h10
        have m10 := m9.keep h10
        have B10 := B9.trans (h10.mono B9.size)
        clear A9 q9 m9 B9
        go_wp2_with fail
        refine (KG2.out _ _ A10).mono ?_
        rintro e w11 ⟨rfl, h11⟩
        have A11 := A10.keep h11
        have q11 := q10.keep h11
        have m11 := m10.keep h11
        have B11 := B10.trans (h11.mono B10.size)
        clear A10 q10 m10 B10
        go_wp2_with fail
        refine (KG2.out _ _ A11).mono ?_
        rintro e w12 ⟨rfl, h12⟩
        have A12 := A11.keep h12
        have q12 := q11.keep h12
        have m12 := m11.keep h12
        have B12 := B11.trans (h12.mono B11.size)
        clear A11 q11 m11 B11
        go_wp2_with fail
        refine (KN3.out _ _ A12).mono ?_
        rintro e w13 ⟨rfl, h13⟩
        have A13 := A12.keep h13
        have q13 := q12.keep h13
        have m13 := m12.keep h13
        have B13 := B12.trans (h13.mono B12.size)
        clear A12 q12 m12 B12
        go_wp2_with fail
        refine (KN3.out _ _ A13).mono ?_
        rintro e w14 ⟨rfl, h14⟩
        have A14 := A13.keep h14
        have q14 := q13.keep h14
        have m14 := m13.keep h14
        have B14 := B13.trans (h14.mono B13.size)
        clear A13 q13 m13 B13
        have AX := Lib.hid A14
        have qX := Lib.hid q14
        have mX := Lib.hid m14
        have BX := Lib.hid B14
        clear A14 q14 m14 B14
        have hWz := BX.out.size
        go_wp2_with fail
        go_loopw [14] (fun I wr => ∃ q : Nat, q ≤ n1 ∧ I = .int .i64 q ∧ Below w14.heap.size w14 wr) (fun I _ => n1 - (intOf I).toNat)
        case atStart => exact ⟨0, by omega, rfl, Below.refl _ _⟩
        case round =>
          obtain ⟨q, hq, rfl, hbq⟩ := hrel
          by_cases hlq : q < n1
          · have hlq2 : (q : Int) < (n1 : Int) := by omega
            have hq0 : 0 ≤ (q : Int) := by omega
            obtain ⟨bm, om, rfl, hbm, hcm⟩ := (mX.out.keep hbq).1.mb (by rw [HL1.out]; omega)
            obtain ⟨r0, r1, _⟩ := hcm q (by rw [HL1.out]; exact hlq)
            have hmem := HOK1.out.mem _ (getD_mem G'.L mb0 q (by rw [HL1.out]; exact hlq))
            have hv1 := hmem.1.2
            have KNq := Lib.hid (fun nq => KN2.out S6 (wz := wr) nq (AX.out.keep hbq))
            have KCq := Lib.hid (fun nq => KC.out (G'.L.getD q mb0).i _ c5 wr nq (qX.out.keep hbq).1)
            have HC0 := Lib.hid (fun h => cnt_old HOKk.out (x := (G'.L.getD q mb0).i) h)
            obtain ⟨v, hv⟩ : ∃ v, (G'.L.getD q mb0).i = v := ⟨_, rfl⟩
            obtain ⟨vk, hvk⟩ : ∃ vk, (G'.L.getD q mb0).k = vk := ⟨_, rfl⟩
            rw [hv] at r0 hv1 KCq HC0
            rw [hvk] at r1
            have HV := Lib.hid hv
            have HVK := Lib.hid hvk
            rw [HN1.out] at hv1
            rw [HN0.out] at HC0
            have g1 : decide (nx1 ≤ v) = false := decide_eq_false (by omega)
            have hbz : bm < wr.heap.size := by have := hbq.size; omega
            clear hcm hmem hv hvk
            rcases (show nx1 ≤ v ∨ ¬ nx1 ≤ v by omega) with hc1 | hc1
            · have g2 : decide (nx1 ≤ v) = true := decide_eq_true hc1
              rw [HC0.out hc1] at KCq
              rw [show (((0 : Nat) : Nat) : Int) = 0 from rfl] at KCq
              have g3 : decide ((0 : Int) < 0) = false := rfl
              clear hc1
              have hbd := Lib.hid (fun nq => (hbq.trans (below_drewN w14.heap.size wr nq) : Below w14.heap.size w14 (wr.drewN nq)))
              go_wp2_with fail
              go_quiet (first | (go_at_call 23; exact Calls.quiet_of_same (KNq.out _)) | (go_at_call 19; exact Calls.quiet_of_same (KCq.out _)))
              go_wp2_with fail
              go_loopw [15] (fun I wr => ∃ j : Nat, j ≤ q ∧ I = .int .i64 j ∧ Below w14.heap.size w14 wr) (fun I _ => q - (intOf I).toNat)
              case atStart => exact ⟨0, by omega, rfl, hbd.out _⟩
              case round =>
                obtain ⟨j, hj, rfl, hby⟩ := hrel
                by_cases hlj : j < q
                · have hlj2 : (j : Int) < (q : Int) := by omega
                  have hj0 : 0 ≤ (j : Int) := by omega
                  have hjn : (j : Int) < (n1 : Int) := by omega
                  obtain ⟨bm', om', e', hbm', hcm⟩ := (mX.out.keep hby).1.mb (by rw [HL1.out]; omega)
                  injection e' with e'
                  injection e' with e1 e2 _
                  subst e1 e2
                  obtain ⟨s0, s1, _⟩ := hcm q (by rw [HL1.out]; exact hlq)
                  obtain ⟨t0, t1, _⟩ := hcm j (by rw [HL1.out]; omega)
                  have hasc := asc_at HASC.out hlj (by rw [HL1.out]; exact hlq)
                  rw [HV.out] at s0 hasc
                  rw [HVK.out] at s1 hasc
                  obtain ⟨u, hu⟩ : ∃ u, (G'.L.getD j mb0).i = u := ⟨_, rfl⟩
                  obtain ⟨uk, huk⟩ : ∃ uk, (G'.L.getD j mb0).k = uk := ⟨_, rfl⟩
                  rw [hu] at t0 hasc
                  rw [huk] at t1 hasc
                  have f1 : (uk == vk) = false := beq_eq_false_iff_ne.2 hasc.2
                  have f2 : decide (v ≤ u) = false := decide_eq_false (by omega)
                  have hbd2 := Lib.hid (fun nq => (hby.trans (below_drewN w14.heap.size wr nq) : Below w14.heap.size w14 (wr.drewN nq)))
                  clear hcm hasc hu huk r0 r1 g1 g2
                  go_wp2_with fail
                  go_quiet (fail)
                  go_wp2_with fail
                  go_roundw
                  case rel => exact ⟨j + 1, by omega, by go_num, hbd2.out _⟩
                  case measure => simp [intOf]; omega
                · obtain rfl : j = q := by omega
                  clear r0 r1
                  go_wp2_with fail
                  go_roundw
                  case rel => exact ⟨j + 1, by omega, by go_num, hby⟩
                  case measure => simp [intOf]; omega
            · have g2 : decide (nx1 ≤ v) = false := decide_eq_false hc1
              clear hc1
              have hbd := Lib.hid (fun nq => (hbq.trans (below_drewN w14.heap.size wr nq) : Below w14.heap.size w14 (wr.drewN nq)))
              go_wp2_with fail
              go_quiet (first | (go_at_call 23; exact Calls.quiet_of_same (KNq.out _)) | (go_at_call 19; exact Calls.quiet_of_same (KCq.out _)))
              go_wp2_with fail
              go_loopw [15] (fun I wr => ∃ j : Nat, j ≤ q ∧ I = .int .i64 j ∧ Below w14.heap.size w14 wr) (fun I _ => q - (intOf I).toNat)
              case atStart => exact ⟨0, by omega, rfl, hbd.out _⟩
              case round =>
                obtain ⟨j, hj, rfl, hby⟩ := hrel
                by_cases hlj : j < q
                · have hlj2 : (j : Int) < (q : Int) := by omega
                  have hj0 : 0 ≤ (j : Int) := by omega
                  have hjn : (j : Int) < (n1 : Int) := by omega
                  obtain ⟨bm', om', e', hbm', hcm⟩ := (mX.out.keep hby).1.mb (by rw [HL1.out]; omega)
                  injection e' with e'
                  injection e' with e1 e2 _
                  subst e1 e2
                  obtain ⟨s0, s1, _⟩ := hcm q (by rw [HL1.out]; exact hlq)
                  obtain ⟨t0, t1, _⟩ := hcm j (by rw [HL1.out]; omega)
                  have hasc := asc_at HASC.out hlj (by rw [HL1.out]; exact hlq)
                  rw [HV.out] at s0 hasc
                  rw [HVK.out] at s1 hasc
                  obtain ⟨u, hu⟩ : ∃ u, (G'.L.getD j mb0).i = u := ⟨_, rfl⟩
                  obtain ⟨uk, huk⟩ : ∃ uk, (G'.L.getD j mb0).k = uk := ⟨_, rfl⟩
                  rw [hu] at t0 hasc
                  rw [huk] at t1 hasc
                  have f1 : (uk == vk) = false := beq_eq_false_iff_ne.2 hasc.2
                  have f2 : decide (v ≤ u) = false := decide_eq_false (by omega)
                  have hbd2 := Lib.hid (fun nq => (hby.trans (below_drewN w14.heap.size wr nq) : Below w14.heap.size w14 (wr.drewN nq)))
                  clear hcm hasc hu huk r0 r1 g1 g2
                  go_wp2_with fail
                  go_quiet (fail)
                  go_wp2_with fail
                  go_roundw
                  case rel => exact ⟨j + 1, by omega, by go_num, hbd2.out _⟩
                  case measure => simp [intOf]; omega
                · obtain rfl : j = q := by omega
                  clear r0 r1
                  go_wp2_with fail
                  go_roundw
                  case rel => exact ⟨j + 1, by omega, by go_num, hby⟩
                  case measure => simp [intOf]; omega
          · obtain rfl : q = n1 := by omega
            go_wp2_with fail
            go_roundw
            case rel => exact ⟨k + 1, S6, by omega, by go_num, by rw [HG1.out]; exact AX.out.keep hbq, hZ6, BX.out.trans (hbq.mono hWz)⟩
            case measure => simp [intOf]; omega
      · have HEQ := Lib.hid hne
        clear hne
        obtain rfl := e1
        have hw1 : IntKind.i64.wrap (gx0 + 1) = gx0 + 1 := IntWalk.i64_in _ (by omega)
        have f1 : ¬ nx1 < nx0 := by omega
        have f2 : ¬ nx0 + 1 < nx1 := by omega
        have KS2 := Lib.hid (fun w a b c d h1 h2 => same_dec (idsL G.L) (idsL G'.L) n0 n1 a b c d w false (by rw [idsL_len, HL0.out]) (by rw [idsL_len, HL1.out]) (by omega) (by omega) h1 h2 ⟨fun h => (by cases h), fun h => absurd h.symm HEQ.out⟩)
        go_wp2_with fail
        refine (KG.out S _ A).mono ?_
        rintro e w2 ⟨rfl, h2⟩
        have A2 := A.keep h2
        have M2 := Mvs.below S h2
        clear A
        go_wp2_with fail
        refine (KN.out S _ A2).mono ?_
        rintro e w3 ⟨rfl, h3⟩
        have A3 := A2.keep h3
        have M3 := M2.trans (Mvs.below S h3)
        clear A2 M2
        go_wp2_with fail
        refine (KM.out S _ A3).mono ?_
        rintro e w4 ⟨a4, c4, rfl, p4, h4⟩
        have A4 := A3.keep h4
        have M4 := M3.trans (Mvs.below S h4)
        clear A3 M3
        go_wp2_with fail
        refine (KI.out _ _ _ p4.1).mono ?_
        rintro e w5 ⟨a5, c5, rfl, o5, h5⟩
        have A5 := A4.keep h5
        have M5 := M4.trans (Mvs.below S h5)
        have p5 := Apt.own (S := S) A4.live o5
        have D5 := (HS.out.below (hb.trans (M5.low hZ.out hb.size)) (Nat.le_refl _)).gd5 (k := k) (by have := HNl.out; omega)
        have HB5 := Lib.hid (hb.trans (M5.low hZ.out hb.size))
        obtain ⟨b1, o1, rfl, hb1, z0, z1, z2, z3, z4⟩ := D5
        have KDD := Lib.hid (KD.out k (l.getD k gd0) _ g S w5 (by omega) HOKk.out A5)
        have hz5 : b1 < w5.heap.size := by have := HB5.out.size; omega
        rw [HRun.out] at KDD
        generalize hx : l.getD k gd0 = x at *
        obtain ⟨xk, xa, xb, xp, xn⟩ := x
        unfold gdV at KDD
        simp only at z0 z1 z2 z3 z4 KDD
        clear hx A4 M4 o5 p4 h2 h3 h4 h5 KI KM KG KN
        go_wp2_with fail
        refine KDD.out.mono ?_
        rintro e w6 ⟨rfl, S6, A6, M6⟩
        have p6 := p5.mvs M6
        have B6 := HB5.out.trans (M6.low (M5.low2 hZ.out hb.size) HB5.out.size)
        have hZ6 := Lib.hid (M6.low2 (M5.low2 hZ.out hb.size) HB5.out.size)
        clear KDD A5 M5 p5 M6 hz5 z0 z1 z2 z3 z4 hb hZ HB5
        go_wp2_with fail
        refine (KM2.out _ _ A6).mono ?_
        rintro e w7 ⟨a7, c7, rfl, p7, h7⟩
        have A7 := A6.keep h7
        have p8 := p6.keep h7
        have B7 := B6.trans (h7.mono B6.size)
        clear A6 p6 B6
        go_wp2_with fail
        refine (KI2.out _ _ _ p7.1).mono ?_
        rintro e w8 ⟨a8, c8, rfl, o8, h8⟩
        have A8 := A7.keep h8
        have q8 := p8.keep h8
        have m8 := p7.keep h8
        have B8 := B7.trans (h8.mono B7.size)
        clear A7 p8 p7 B7
        go_wp2_with fail
        refine (KS2.out _ _ _ _ _ q8.1 (ownN_sl o8)).mono ?_
        rintro e w9 ⟨rfl, h9⟩
        have A9 := A8.keep h9
        have q9 := q8.keep h9
        have m9 := m8.keep h9
        have B9 := B8.trans (h9.mono B8.size)
        clear A8 q8 m8 B8 o8 KS2
        go_wp2_with fail
        refine (KG2.out _ _ A9).mono ?_
        rintro e w10 ⟨rfl, h10⟩
        have A10 := A9.keep h10
        have q10 := q9.keep h10
        have m10 := m9.keep h10
        have B10 := B9.trans (h10.mono B9.size)
        clear A9 q9 m9 B9
        go_wp2_with fail
        refine (KG2.out _ _ A10).mono ?_
        rintro e w11 ⟨rfl, h11⟩
        have A11 := A10.keep h11
        have q11 := q10.keep h11
        have m11 := m10.keep h11
        have B11 := B10.trans (h11.mono B10.size)
        clear A10 q10 m10 B10
        go_wp2_with fail
        refine (KG2.out _ _ A11).mono ?_
        rintro e w12 ⟨rfl, h12⟩
        have A12 := A11.keep h12
        have q12 := q11.keep h12
        have m12 := m11.keep h12
        have B12 := B11.trans (h12.mono B11.size)
        clear A11 q11 m11 B11
        go_wp2_with fail
        refine (KN3.out _ _ A12).mono ?_
        rintro e w13 ⟨rfl, h13⟩
        have A13 := A12.keep h13
        have q13 := q12.keep h13
        have m13 := m12.keep h13
        have B13 := B12.trans (h13.mono B12.size)
        clear A12 q12 m12 B12
        go_wp2_with fail
        refine (KN3.out _ _ A13).mono ?_
        rintro e w14 ⟨rfl, h14⟩
        have A14 := A13.keep h14
        have q14 := q13.keep h14
        have m14 := m13.keep h14
        have B14 := B13.trans (h14.mono B13.size)
        clear A13 q13 m13 B13
        have AX := Lib.hid A14
        have qX := Lib.hid q14
        have mX := Lib.hid m14
        have BX := Lib.hid B14
        clear A14 q14 m14 B14
        have hWz := BX.out.size
        go_wp2_with fail
        go_loopw [14] (fun I wr => ∃ q : Nat, q ≤ n1 ∧ I = .int .i64 q ∧ Below w14.heap.size w14 wr) (fun I _ => n1 - (intOf I).toNat)
        case atStart => exact ⟨0, by omega, rfl, Below.refl _ _⟩
        case round =>
          obtain ⟨q, hq, rfl, hbq⟩ := hrel
          by_cases hlq : q < n1
          · have hlq2 : (q : Int) < (n1 : Int) := by omega
            have hq0 : 0 ≤ (q : Int) := by omega
            obtain ⟨bm, om, rfl, hbm, hcm⟩ := (mX.out.keep hbq).1.mb (by rw [HL1.out]; omega)
            obtain ⟨r0, r1, _⟩ := hcm q (by rw [HL1.out]; exact hlq)
            have hmem := HOK1.out.mem _ (getD_mem G'.L mb0 q (by rw [HL1.out]; exact hlq))
            have hv1 := hmem.1.2
            have KNq := Lib.hid (fun nq => KN2.out S6 (wz := wr) nq (AX.out.keep hbq))
            have KCq := Lib.hid (fun nq => KC.out (G'.L.getD q mb0).i _ c5 wr nq (qX.out.keep hbq).1)
            have HC0 := Lib.hid (fun h => cnt_old HOKk.out (x := (G'.L.getD q mb0).i) h)
            obtain ⟨v, hv⟩ : ∃ v, (G'.L.getD q mb0).i = v := ⟨_, rfl⟩
            obtain ⟨vk, hvk⟩ : ∃ vk, (G'.L.getD q mb0).k = vk := ⟨_, rfl⟩
            rw [hv] at r0 hv1 KCq HC0
            rw [hvk] at r1
            have HV := Lib.hid hv
            have HVK := Lib.hid hvk
            rw [HN1.out] at hv1
            rw [HN0.out] at HC0
            have g1 : decide (nx1 ≤ v) = false := decide_eq_false (by omega)
            have hbz : bm < wr.heap.size := by have := hbq.size; omega
            clear hcm hmem hv hvk
            rcases (show nx0 ≤ v ∨ ¬ nx0 ≤ v by omega) with hc1 | hc1
            · have g2 : decide (nx0 ≤ v) = true := decide_eq_true hc1
              rw [HC0.out hc1] at KCq
              rw [show (((0 : Nat) : Nat) : Int) = 0 from rfl] at KCq
              have g3 : decide ((0 : Int) < 0) = false := rfl
              clear hc1
              have hbd := Lib.hid (fun nq => (hbq.trans (below_drewN w14.heap.size wr nq) : Below w14.heap.size w14 (wr.drewN nq)))
              go_wp2_with fail
              go_quiet (first | (go_at_call 23; exact Calls.quiet_of_same (KNq.out _)) | (go_at_call 19; exact Calls.quiet_of_same (KCq.out _)))
              go_wp2_with fail
              go_loopw [15] (fun I wr => ∃ j : Nat, j ≤ q ∧ I = .int .i64 j ∧ Below w14.heap.size w14 wr) (fun I _ => q - (intOf I).toNat)
              case atStart => exact ⟨0, by omega, rfl, hbd.out _⟩
              case round =>
                obtain ⟨j, hj, rfl, hby⟩ := hrel
                by_cases hlj : j < q
                · have hlj2 : (j : Int) < (q : Int) := by omega
                  have hj0 : 0 ≤ (j : Int) := by omega
                  have hjn : (j : Int) < (n1 : Int) := by omega
                  obtain ⟨bm', om', e', hbm', hcm⟩ := (mX.out.keep hby).1.mb (by rw [HL1.out]; omega)
                  injection e' with e'
                  injection e' with e1 e2 _
                  subst e1 e2
                  obtain ⟨s0, s1, _⟩ := hcm q (by rw [HL1.out]; exact hlq)
                  obtain ⟨t0, t1, _⟩ := hcm j (by rw [HL1.out]; omega)
                  have hasc := asc_at HASC.out hlj (by rw [HL1.out]; exact hlq)
                  rw [HV.out] at s0 hasc
                  rw [HVK.out] at s1 hasc
                  obtain ⟨u, hu⟩ : ∃ u, (G'.L.getD j mb0).i = u := ⟨_, rfl⟩
                  obtain ⟨uk, huk⟩ : ∃ uk, (G'.L.getD j mb0).k = uk := ⟨_, rfl⟩
                  rw [hu] at t0 hasc
                  rw [huk] at t1 hasc
                  have f1 : (uk == vk) = false := beq_eq_false_iff_ne.2 hasc.2
                  have f2 : decide (v ≤ u) = false := decide_eq_false (by omega)
                  have hbd2 := Lib.hid (fun nq => (hby.trans (below_drewN w14.heap.size wr nq) : Below w14.heap.size w14 (wr.drewN nq)))
                  clear hcm hasc hu huk r0 r1 g1 g2
                  go_wp2_with fail
                  go_quiet (fail)
                  go_wp2_with fail
                  go_roundw
                  case rel => exact ⟨j + 1, by omega, by go_num, hbd2.out _⟩
                  case measure => simp [intOf]; omega
                · obtain rfl : j = q := by omega
                  clear r0 r1
                  go_wp2_with fail
                  go_roundw
                  case rel => exact ⟨j + 1, by omega, by go_num, hby⟩
                  case measure => simp [intOf]; omega
            · have g2 : decide (nx0 ≤ v) = false := decide_eq_false hc1
              clear hc1
              have hbd := Lib.hid (fun nq => (hbq.trans (below_drewN w14.heap.size wr nq) : Below w14.heap.size w14 (wr.drewN nq)))
              go_wp2_with fail
              go_quiet (first | (go_at_call 23; exact Calls.quiet_of_same (KNq.out _)) | (go_at_call 19; exact Calls.quiet_of_same (KCq.out _)))
              go_wp2_with fail
              go_loopw [15] (fun I wr => ∃ j : Nat, j ≤ q ∧ I = .int .i64 j ∧ Below w14.heap.size w14 wr) (fun I _ => q - (intOf I).toNat)
              case atStart => exact ⟨0, by omega, rfl, hbd.out _⟩
              case round =>
                obtain ⟨j, hj, rfl, hby⟩ := hrel
                by_cases hlj : j < q
                · have hlj2 : (j : Int) < (q : Int) := by omega
                  have hj0 : 0 ≤ (j : Int) := by omega
                  have hjn : (j : Int) < (n1 : Int) := by omega
                  obtain ⟨bm', om', e', hbm', hcm⟩ := (mX.out.keep hby).1.mb (by rw [HL1.out]; omega)
                  injection e' with e'
                  injection e' with e1 e2 _
                  subst e1 e2
                  obtain ⟨s0, s1, _⟩ := hcm q (by rw [HL1.out]; exact hlq)
                  obtain ⟨t0, t1, _⟩ := hcm j (by rw [HL1.out]; omega)
                  have hasc := asc_at HASC.out hlj (by rw [HL1.out]; exact hlq)
                  rw [HV.out] at s0 hasc
                  rw [HVK.out] at s1 hasc
                  obtain ⟨u, hu⟩ : ∃ u, (G'.L.getD j mb0).i = u := ⟨_, rfl⟩
                  obtain ⟨uk, huk⟩ : ∃ uk, (G'.L.getD j mb0).k = uk := ⟨_, rfl⟩
                  rw [hu] at t0 hasc
                  rw [huk] at t1 hasc
                  have f1 : (uk == vk) = false := beq_eq_false_iff_ne.2 hasc.2
                  have f2 : decide (v ≤ u) = false := decide_eq_false (by omega)
                  have hbd2 := Lib.hid (fun nq => (hby.trans (below_drewN w14.heap.size wr nq) : Below w14.heap.size w14 (wr.drewN nq)))
                  clear hcm hasc hu huk r0 r1 g1 g2
                  go_wp2_with fail
                  go_quiet (fail)
                  go_wp2_with fail
                  go_roundw
                  case rel => exact ⟨j + 1, by omega, by go_num, hbd2.out _⟩
                  case measure => simp [intOf]; omega
                · obtain rfl : j = q := by omega
                  clear r0 r1
                  go_wp2_with fail
                  go_roundw
                  case rel => exact ⟨j + 1, by omega, by go_num, hby⟩
                  case measure => simp [intOf]; omega
          · obtain rfl : q = n1 := by omega
            go_wp2_with fail
            go_roundw
            case rel => exact ⟨k + 1, S6, by omega, by go_num, by rw [HG1.out]; exact AX.out.keep hbq, hZ6, BX.out.trans (hbq.mono hWz)⟩
            case measure => simp [intOf]; omega
    · obtain rfl : k = N := by omega
      have hOK := HOK.out k
      obtain ⟨G, hG⟩ : ∃ G, runG GZ l k = G := ⟨_, rfl⟩
      rw [hG] at hOK A
      clear hOK hG KD HOK HS HNl HAS
      go_wp2_with fail
      refine (K7.out _).mono ?_
      rintro e w8 ⟨rfl, h8⟩
      go_wp2_with fail
      go_ret
      exact ⟨rfl, hb.trans (h8.mono hb.size)⟩
end Go.Proofs.Ytocmhmfaehnliaa
