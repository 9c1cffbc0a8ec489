/- The walk of GroupExpires. -/
import Derived.Test.YtocmhmfaehnliaaGrExp
import Derived.Test.YtocmhmfaehnliaaGrAim
import Derived.Deep.Cut
namespace Go.Proofs.Ytocmhmfaehnliaa
open Go.RowKit Vm As
set_option linter.unusedVariables false
set_option linter.unusedSimpArgs false

set_option maxRecDepth 100000 in
set_option maxHeartbeats 32000000 in
theorem groupExpires_law (st : Bool) (l : List Gd) (a : Option Addr) (c : Nat) (sil : Int) (w : World) (hl : Sl w w.heap.size a (gdCells l)) (hi : ∀ r ∈ l, GdI r) (hc : (a = none → c = 0) ∧ l.length ≤ c ∧ c ≤ maxLen) (hsw : (Lit.int .i64 sil).wf = true) :
    Calls Try.prog 7 #[.bool st, .slice a l.length c, .int .i64 sil] w fun e w' => e = .returned (.bool true) ∧ Below w.heap.size w w' := by
  have HOK := Lib.hid (fun k => runG_ok (l := l) (newG_ok (st := st) (show newOk 4 0 1 = true by decide)) k)
  have KN := Lib.hid (new_ga 4 st 0 1 w (by decide))
  unfold NewQ at KN
  have KD := Lib.hid (fun K x G g S w (hK : K ≤ 700) hok h => does_walk K x G g S w hK hok h)
  unfold DoQ at KD
  obtain ⟨N, hN⟩ : ∃ N, min l.length 120 = N := ⟨_, rfl⟩
  have hNm : N ≤ 120 := by omega
  have hNl : N ≤ l.length := by omega
  obtain ⟨n, hn⟩ : ∃ n, l.length = n := ⟨_, rfl⟩
  have KS := Lib.hid (fun w => some10_walk a n c w (by have h9 := hc.2.2; unfold maxLen at h9; omega) (by rw [← hn]; exact hc.2.1))
  rw [hn] at hN
  rw [hN] at KS
  have HS := Lib.hid hl
  have HNl := Lib.hid hNl
  have HAS := Lib.hid (fun k => asc_run (l := l) (newG_ok (st := st) (show newOk 4 0 1 = true by decide)) (by unfold Asc prs newG; simp) k)
  have HGE := Lib.hid (fun k => run_gen (l := l) (newG_ok (st := st) (show newOk 4 0 1 = true by decide)) k)
  have hg00 : (newG 4 st 0 1).g = 0 := rfl
  rw [hg00] at HGE
  rw [hn]
  generalize hGZ : newG 4 st 0 1 = GZ at *
  have K7 := Lib.hid (fun w => awake10_walk w)
  clear hl hi hc hN hNl hn hsw hg00
  go_enter Try.func7, Try.ntmps7
  go_wp2_with fail
  refine KN.out.mono ?_
  rintro e w0 ⟨g, S0, rfl, A0, hZ0, b0⟩
  go_wp2_with fail
  refine (KS.out w0).mono ?_
  rintro e w1 ⟨rfl, rfl⟩
  clear KN KS
  go_wp2_with fail
  go_loopw [9] (fun I wr => ∃ (k : Nat) (S : Nat → Prop), k ≤ N ∧ I = .int .i64 k ∧ GA wr g (runG GZ l k) S ∧ Hid (∀ x, S x → w.heap.size ≤ x) ∧ Below w.heap.size w wr) (fun I _ => N - (intOf I).toNat)
  case atStart => exact ⟨0, S0, by omega, rfl, A0, hZ0, b0⟩
  case round =>
    obtain ⟨k, S, hk, rfl, A, hZ, hb⟩ := hrel
    clear A0 hZ0 b0
    by_cases hlt : k < N
    · have hlt2 : (k : Int) < (N : Int) := by omega
      have hk0 : 0 ≤ (k : Int) := by omega
      obtain ⟨b1, o1, rfl, hb1, z0, z1, z2, z3, z4⟩ := (HS.out.below hb (Nat.le_refl _)).gd5 (k := k) (by have := HNl.out; omega)
      have HRun : Hid (runG GZ l (k + 1) = doesG (runG GZ l k) (l.getD k gd0)) := Lib.hid rfl
      have KDD := Lib.hid (KD.out k (l.getD k gd0) _ g S wr (by omega) (HOK.out k) A)
      generalize hx : l.getD k gd0 = x at *
      obtain ⟨xk, xa, xb, xp, xn⟩ := x
      unfold gdV at KDD
      simp only at z0 z1 z2 z3 z4 KDD
      have hz1 : b1 < wr.heap.size := by have := hb.size; omega
      clear hx
      go_wp2_with fail
      refine KDD.out.mono ?_
      rintro e w5 ⟨rfl, S5, A5, M5⟩
      have b5 := hb.trans (M5.low hZ.out hb.size)
      have hZ5 := Lib.hid (M5.low2 hZ.out hb.size)
      rw [← HRun.out] at A5
      clear KDD HRun z0 z1 z2 z3 z4 A M5
      go_wp2_with fail
      go_roundw
      case rel => exact ⟨k + 1, S5, by omega, by go_num, A5, hZ5, b5⟩
      case measure => simp [intOf]; omega
    · obtain rfl : k = N := by omega
      have hOK := HOK.out k
      obtain ⟨G, hG⟩ : ∃ G, runG GZ l k = G := ⟨_, rfl⟩
      rw [hG] at hOK A
      have hLm := hOK.len
      have HASC : Hid (Asc G.L) := Lib.hid (by have := HAS.out k; rw [hG] at this; exact this)
      have hgne : Hid (G.g ≠ 1099511627776) := Lib.hid (by have := HGE.out k; rw [hG] at this; omega)
      have HOKG := Lib.hid hOK
      have K1 := Lib.hid (members_ga G g S wr (by omega) A)
      unfold RowQ at K1
      obtain ⟨n1, hn1⟩ : ∃ n1, G.L.length = n1 := ⟨_, rfl⟩
      have HL1 := Lib.hid hn1
      rw [hn1] at K1 hLm
      clear KD HOK HS HNl HAS HGE hG hOK hn1
      go_wp2_with fail
      refine K1.out.mono ?_
      rintro e w2 ⟨a2, c2, rfl, p2, h2⟩
      have A2 := A.keep h2
      have b2 := hb.trans (h2.mono hb.size)
      clear K1 A
      rcases Nat.eq_zero_or_pos n1 with h0 | h0
      · subst h0
        go_wp2_with fail
        refine (K7.out _).mono ?_
        rintro e w8 ⟨rfl, h8⟩
        go_wp2_with fail
        go_ret
        exact ⟨rfl, b2.trans (h8.mono b2.size)⟩
      · have hkz : ((n1 : Int) == 0) = false := beq_eq_false_iff_ne.2 (by omega)
        have hnz : (n1 : Int) ≠ 0 := by omega
        obtain ⟨hq, hq2, hq3, hq4⟩ := pickN_is sil n1 h0
        obtain ⟨jq, hjq⟩ : ∃ jq, pickN sil n1 = jq := ⟨_, rfl⟩
        rw [hjq] at hq hq2
        obtain ⟨bm, om, rfl, hbm, hcm⟩ := p2.1.mb (by rw [HL1.out]; exact h0)
        obtain ⟨r0, _, _⟩ := hcm jq (by rw [HL1.out]; exact hq2)
        have hjn : (jq : Int) < (n1 : Int) := by omega
        have hj0 : 0 ≤ (jq : Int) := by omega
        have KSq := Lib.hid (sync_ga 120 (G.L.getD jq mb0).i G g S w2 (by omega) (HOKG.out.more (by omega)) A2)
        unfold SyncQ at KSq
        have HE0 := Lib.hid (exp_start (HOKG.out.more (K' := 120) (by omega)) HASC.out (jq := jq) (by rw [HL1.out]; exact hq2))
        obtain ⟨x, hx⟩ : ∃ x, (G.L.getD jq mb0).i = x := ⟨_, rfl⟩
        rw [hx] at KSq HE0 r0
        have HX := Lib.hid hx
        have Hq := Lib.hid hq
        have hwq : IntKind.i64.wrap (sil.tmod n1 + n1) = sil.tmod n1 + n1 := IntWalk.i64_in _ (by omega)
        clear hcm hx hjq hq3 hq4
        go_upto_region 13 with fail
        clear hwq
        generalize syncL G x = LL at *
        generalize syncN G x = NN at *
        generalize syncE G x = EE at *
        generalize syncG G x = H0 at *
        go_wp2_with fail
        refine KSq.out.mono ?_
        rintro e w3 ⟨al, cl, rfl, S3, A3, M3, _⟩
        have q3 := Lib.hid (p2.mvs M3)
        have b3 := b2.trans (M3.low hZ.out b2.size)
        have hZ3 := Lib.hid (M3.low2 hZ.out b2.size)
        have HR1 : Hid (RoundI G jq 1 H0) := Lib.hid (.inl ⟨by omega, by
          have := HE0.out
          rw [show G.t + ((1 : Nat) : Int) - 1 = G.t from by omega]
          exact ⟨this.ok.more (by omega), this.prs, this.tt, this.gg, this.qd, this.od⟩⟩)
        clear KSq A2 p2 M3 hZ b2 r0 hq HE0
        go_wp2_with fail
        go_loopw [12] (fun I wr => ∃ (tt : Nat) (H : Gr) (S : Nat → Prop), 1 ≤ tt ∧ tt ≤ 13 ∧ I = .int .i64 tt ∧ GA wr g H S ∧ Hid (RoundI G jq tt H) ∧ Hid (Apt wr S (some ⟨bm, om, none⟩) (mbCells G.L)) ∧ Hid (∀ x, S x → w.heap.size ≤ x) ∧ Below w.heap.size w wr) (fun I _ => 13 - (intOf I).toNat)
        case atStart => exact ⟨1, H0, S3, by omega, by omega, rfl, A3, HR1, q3, hZ3, b3⟩
        case round =>
          obtain ⟨tt, H, St, ht1, ht2, rfl, At, HR, qt, hZt, hbt⟩ := hrel
          by_cases hlt : tt ≤ 12
          · have hlt2 : (tt : Int) ≤ 12 := by omega
            have HE : Hid (ExpI G G.t (G.t + (tt : Int) - 1) jq 0 (120 + tt) H) := Lib.hid (by
              rcases HR.out with ⟨_, h⟩ | ⟨h, _⟩
              · exact h
              · omega)
            clear HR A3 q3 hZ3 b3
            go_wp2_with fail
            go_loopw [13] (fun I wr => ∃ (q : Nat) (H : Gr) (S : Nat → Prop), q ≤ n1 ∧ I = .int .i64 q ∧ GA wr g H S ∧ Hid (ExpI G G.t (G.t + (tt : Int) - 1) jq q (120 + tt) H) ∧ Hid (Apt wr S (some ⟨bm, om, none⟩) (mbCells G.L)) ∧ Hid (∀ x, S x → w.heap.size ≤ x) ∧ Below w.heap.size w wr) (fun I _ => n1 - (intOf I).toNat)
            case atStart => exact ⟨0, H, St, by omega, rfl, At, HE, qt, hZt, hbt⟩
            case round =>
              clear At qt hZt hbt HE
              obtain ⟨q, H, Sq, hqn, rfl, Aq, HE, pq, hZq, hbq⟩ := hrel
              by_cases hlq : q < n1
              · have hlq2 : (q : Int) < (n1 : Int) := by omega
                have hq0 : 0 ≤ (q : Int) := by omega
                obtain ⟨bm', om', e', hbm', hcm⟩ := pq.out.1.mb (by rw [HL1.out]; exact h0)
                injection e' with e'
                injection e' with e1 e2 _
                subst e1 e2
                obtain ⟨s0, _, _⟩ := hcm q (by rw [HL1.out]; exact hlq)
                clear hcm
                by_cases hqj : q = jq
                · have HE2 := Lib.hid (exp_skip HE.out hqj)
                  have hxx : (x != x) = false := by simp
                  rw [hqj, HX.out, ← hqj] at s0
                  clear hqj
                  go_wp2_with fail
                  go_roundw
                  case rel => exact ⟨q + 1, H, Sq, by omega, by go_num, Aq, HE2, pq, hZq, hbq⟩
                  case measure => simp [intOf]; omega
                · have HE2 := Lib.hid (exp_hear HE.out HASC.out (k := q) (by rw [HL1.out]; exact hlq) (by rw [HL1.out]; exact hq2) hqj)
                  have KSy := Lib.hid (sync_ga (120 + tt) (G.L.getD q mb0).i H g Sq wr (by omega) HE.out.ok Aq)
                  unfold SyncQ at KSy
                  have hne : ((G.L.getD q mb0).i != x) = true := by
                    have hd : (G.L.getD q mb0).i ≠ x := fun e => by
                      rw [← HX.out] at e
                      rcases Nat.lt_or_gt_of_ne hqj with h | h
                      · have := (asc_at HASC.out h (by rw [HL1.out]; exact hq2)).1; omega
                      · have := (asc_at HASC.out h (by rw [HL1.out]; exact hlq)).1; omega
                    simpa using hd
                  generalize (G.L.getD q mb0).i = v at *
                  generalize syncL H v = LL at *
                  generalize syncN H v = NN at *
                  generalize syncE H v = EE at *
                  generalize syncG H v = H2 at *
                  clear hqj HE
                  go_wp2_with fail
                  refine KSy.out.mono ?_
                  rintro e w5 ⟨al5, cl5, rfl, S5, A5, M5, _⟩
                  have p5 := Lib.hid (pq.out.mvs M5)
                  have b5 := hbq.trans (M5.low hZq.out hbq.size)
                  have hZ5 := Lib.hid (M5.low2 hZq.out hbq.size)
                  clear KSy Aq pq M5 s0 hne
                  go_wp2_with fail
                  go_roundw
                  case rel => exact ⟨q + 1, H2, S5, by omega, by go_num, A5, HE2, p5, hZ5, b5⟩
                  case measure => simp [intOf]; omega
              · obtain rfl : q = n1 := by omega
                have KT := Lib.hid (tick_ga (120 + tt) H g Sq wr (by omega) HE.out.ok Aq)
                unfold GQ at KT
                rcases (show tt < 12 ∨ tt = 12 by omega) with htt | htt
                · obtain ⟨hTB, hTI⟩ := exp_tick HE.out HL1.out hq2 (by omega) hgne.out
                  rw [hTB] at KT
                  have HR2 : Hid (RoundI G jq (tt + 1) (tickG H)) := Lib.hid (.inl ⟨by omega, by
                    rw [show G.t + (tt : Int) - 1 + 1 = G.t + ((tt + 1 : Nat) : Int) - 1 from by omega] at hTI
                    exact hTI⟩)
                  have htb : ((tt : Int) == 12) = false := beq_eq_false_iff_ne.2 (by omega)
                  generalize tickG H = H2 at *
                  clear hTB hTI htt HE
                  go_wp2_with fail
                  refine KT.out.mono ?_
                  rintro e w5 ⟨rfl, S5, A5, M5⟩
                  have p5 := Lib.hid (pq.out.mvs M5)
                  have b5 := hbq.trans (M5.low hZq.out hbq.size)
                  have hZ5 := Lib.hid (M5.low2 hZq.out hbq.size)
                  clear KT Aq pq M5
                  go_wp2_with fail
                  go_roundw
                  case rel => exact ⟨tt + 1, H2, S5, by omega, by omega, by go_num, A5, HR2, p5, hZ5, b5⟩
                  case measure => simp [intOf]; omega
                · subst htt
                  obtain ⟨hTB, hTO, hTL, hTC⟩ := exp_last HE.out HASC.out HL1.out hq2 (by omega) hgne.out
                  rw [hTB] at KT
                  have HR2 : Hid (RoundI G jq 13 (tickG H)) := Lib.hid (.inr ⟨rfl, hTO.more (by omega), by rw [HL1.out]; exact hTL, hTC⟩)
                  generalize tickG H = H2 at *
                  clear hTB hTO hTL hTC HE
                  go_wp2_with fail
                  refine KT.out.mono ?_
                  rintro e w5 ⟨rfl, S5, A5, M5⟩
                  have p5 := Lib.hid (pq.out.mvs M5)
                  have b5 := hbq.trans (M5.low hZq.out hbq.size)
                  have hZ5 := Lib.hid (M5.low2 hZq.out hbq.size)
                  clear KT Aq pq M5
                  go_wp2_with fail
                  go_roundw
                  case rel => exact ⟨13, H2, S5, by omega, by omega, by go_num, A5, HR2, p5, hZ5, b5⟩
                  case measure => simp [intOf]
          · obtain rfl : tt = 13 := by omega
            obtain ⟨hO, hL, hC⟩ : GOk H 200 ∧ H.L.length + 1 = n1 ∧ cnt (idsL H.L) x = 0 := by
              rcases HR.out with ⟨h, _⟩ | ⟨_, h1, h2, h3⟩
              · omega
              · exact ⟨h1, by rw [← HL1.out]; exact h2, by rw [← HX.out]; exact h3⟩
            have hhl := hO.len
            obtain ⟨nh, hnh⟩ : ∃ nh, H.L.length = nh := ⟨_, rfl⟩
            have HNH := Lib.hid hnh
            rw [hnh] at hL hhl
            have K1 := Lib.hid (members_ga H g St wr (by rw [hnh]; omega) At)
            unfold RowQ at K1
            rw [hnh] at K1
            have K2 := Lib.hid (fun w a c (h : Sl w w.heap.size a (mbCells H.L)) => ids_walk H.L nh a c w HNH.out (by omega) h)
            have K3 := Lib.hid (fun w a c (h : Sl w w.heap.size a (i64s (idsL H.L))) => rcount_walk (idsL H.L) nh x a c w.heap.size w (by rw [idsL_len, HNH.out]) (by omega) h (Nat.le_refl _))
            rw [hC] at K3
            have hws : IntKind.i64.wrap ((n1 : Int) - 1) = (nh : Int) := by rw [IntWalk.i64_in _ (by omega)]; omega
            have hee : ((nh : Int) == (nh : Int)) = true := by simp
            have hHL := Lib.hid hL
            clear hO hL hC hnh HR
            go_wp2_with fail
            refine K1.out.mono ?_
            rintro e w2 ⟨a2, c2, rfl, p2, h2⟩
            have b2 := hbt.trans (h2.mono hbt.size)
            go_wp2_with fail
            refine (K2.out _ _ _ p2.1).mono ?_
            rintro e w5 ⟨a5, c5, rfl, o5, h5⟩
            have b5 := b2.trans (h5.mono b2.size)
            go_wp2_with fail
            refine (K3.out _ _ _ (ownN_sl o5)).mono ?_
            rintro e w6 ⟨rfl, hw6⟩
            subst hw6
            go_wp2_with fail
            refine (K7.out _).mono ?_
            rintro e w8 ⟨rfl, h8⟩
            go_wp2_with fail
            go_ret
            exact ⟨rfl, b5.trans (h8.mono b5.size)⟩
end Go.Proofs.Ytocmhmfaehnliaa
