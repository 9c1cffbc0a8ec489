/- The walk of GroupFences. -/
import Derived.Test.YtocmhmfaehnliaaGrRun
namespace Go.Proofs.Ytocmhmfaehnliaa
open Go.RowKit Vm As
set_option linter.unusedVariables false
set_option linter.unusedSimpArgs false

set_option maxRecDepth 100000 in
set_option maxHeartbeats 16000000 in
theorem groupFences_law (st : Bool) (l : List Gd) (a : Option Addr) (c : Nat) (id gen part : Int) (w : World) (hl : Sl w w.heap.size a (gdCells l)) (hi : ∀ r ∈ l, GdI r) (hc : (a = none → c = 0) ∧ l.length ≤ c ∧ c ≤ maxLen) (hw1 : (Lit.int .i64 id).wf = true) (hw2 : (Lit.int .i64 gen).wf = true) (hw3 : (Lit.int .i64 part).wf = true) :
    Calls Try.prog 6 #[.bool st, .slice a l.length c, .int .i64 id, .int .i64 gen, .int .i64 part] w fun e w' => e = .returned (.bool true) ∧ Below w.heap.size w w' := by
  have HOK := Lib.hid (fun k => runG_ok (l := l) (newG_ok (st := st) (show newOk 4 0 1 = true by decide)) k)
  have KN := Lib.hid (new_ga 4 st 0 1 w (by decide))
  unfold NewQ at KN
  have KD := Lib.hid (fun K x G g S w (hK : K ≤ 700) hok h => does_walk K x G g S w hK hok h)
  unfold DoQ at KD
  obtain ⟨N, hN⟩ : ∃ N, min l.length 120 = N := ⟨_, rfl⟩
  have hNm : N ≤ 120 := by omega
  have hNl : N ≤ l.length := by omega
  obtain ⟨n, hn⟩ : ∃ n, l.length = n := ⟨_, rfl⟩
  have KS := Lib.hid (fun w => some10_walk a n c w (by have h9 := hc.2.2; unfold maxLen at h9; omega) (by rw [← hn]; exact hc.2.1))
  rw [hn] at hN
  rw [hN] at KS
  have HS := Lib.hid hl
  have HNl := Lib.hid hNl
  rw [hn]
  generalize hGZ : newG 4 st 0 1 = GZ at *
  have K7 := Lib.hid (fun w => awake10_walk w)
  clear hl hi hc hw1 hw2 hw3 hN hNl hn
  go_enter Try.func6, Try.ntmps6
  go_wp2_with fail
  refine KN.out.mono ?_
  rintro e w0 ⟨g, S0, rfl, A0, hZ0, b0⟩
  go_wp2_with fail
  refine (KS.out w0).mono ?_
  rintro e w1 ⟨rfl, rfl⟩
  clear KN KS
  go_wp2_with fail
  go_loopw [13] (fun I wr => ∃ (k : Nat) (S : Nat → Prop), k ≤ N ∧ I = .int .i64 k ∧ GA wr g (runG GZ l k) S ∧ Hid (∀ x, S x → w.heap.size ≤ x) ∧ Below w.heap.size w wr) (fun I _ => N - (intOf I).toNat)
  case atStart => exact ⟨0, S0, by omega, rfl, A0, hZ0, b0⟩
  case round =>
    obtain ⟨k, S, hk, rfl, A, hZ, hb⟩ := hrel
    clear A0 hZ0 b0
    by_cases hlt : k < N
    · have hlt2 : (k : Int) < (N : Int) := by omega
      have hk0 : 0 ≤ (k : Int) := by omega
      obtain ⟨b1, o1, rfl, hb1, z0, z1, z2, z3, z4⟩ := (HS.out.below hb (Nat.le_refl _)).gd5 (k := k) (by have := HNl.out; omega)
      have HRun : Hid (runG GZ l (k + 1) = doesG (runG GZ l k) (l.getD k gd0)) := Lib.hid rfl
      have KDD := Lib.hid (KD.out k (l.getD k gd0) _ g S wr (by omega) (HOK.out k) A)
      generalize hx : l.getD k gd0 = x at *
      obtain ⟨xk, xa, xb, xp, xn⟩ := x
      unfold gdV at KDD
      simp only at z0 z1 z2 z3 z4 KDD
      have hz1 : b1 < wr.heap.size := by have := hb.size; omega
      clear hx
      go_wp2_with fail
      refine KDD.out.mono ?_
      rintro e w5 ⟨rfl, S5, A5, M5⟩
      have b5 := hb.trans (M5.low hZ.out hb.size)
      have hZ5 := Lib.hid (M5.low2 hZ.out hb.size)
      rw [← HRun.out] at A5
      clear KDD HRun z0 z1 z2 z3 z4 A M5
      go_wp2_with fail
      go_roundw
      case rel => exact ⟨k + 1, S5, by omega, by go_num, A5, hZ5, b5⟩
      case measure => simp [intOf]; omega
    · obtain rfl : k = N := by omega
      have hOK := HOK.out k
      obtain ⟨G, hG⟩ : ∃ G, runG GZ l k = G := ⟨_, rfl⟩
      rw [hG] at hOK A
      have hLm := hOK.len
      have K1 := Lib.hid (fun w h => members_ga G g S w (by omega) h)
      unfold RowQ at K1
      have K2 := Lib.hid (fun w a c (h : Sl w w.heap.size a (mbCells G.L)) => ids_walk G.L G.L.length a c w rfl (by omega) h)
      have K3 := Lib.hid (fun w a c (h : Sl w w.heap.size a (i64s (idsL G.L))) => rcount_walk (idsL G.L) G.L.length id a c w.heap.size w (idsL_len G.L) (by omega) h (Nat.le_refl _))
      have K9 := Lib.hid (fun w h => gen_ga G g S w h)
      obtain ⟨NL, hNL⟩ : ∃ NL, G.L.length = NL := ⟨_, rfl⟩
      rw [hNL] at K1 K2 K3
      clear hNL hLm KD HOK HS HNl
      by_cases hc0 : cnt (idsL G.L) id = 0
      · have hh : hasI G.L id = false := by
          cases h : hasI G.L id
          · rfl
          · exact absurd hc0 (hasI_cnt.1 h)
        have e1 : mayE G id gen part = 11 := by unfold mayE; rw [hh]; rfl
        have e2 : beatE G id gen = 11 := by unfold beatE; rw [hh]; rfl
        have e3 : beatG G id gen = G := by unfold beatG; rw [e2]; rfl
        have e4 : leaveE G id = 11 := by unfold leaveE; rw [hh]; rfl
        have K4 := Lib.hid (fun S w h => may_ga k id gen part G g S w (by omega) hOK h)
        have K5 := Lib.hid (fun S w h => beat_ga k id gen G g S w (by omega) hOK h)
        have K6 := Lib.hid (fun S w h => leave_ga k id G g S w (by omega) hOK h)
        rw [e1] at K4
        rw [e2, e3] at K5
        rw [e4] at K6
        unfold GQ at K5 K6
        have HC0 := Lib.hid hc0
        clear e1 e2 e3 e4 hh hc0 hOK hG
        go_wp2_with fail
        refine (K1.out _ A).mono ?_
        rintro e w2 ⟨a2, c2, rfl, p2, h2⟩
        have A2 := A.keep h2
        have M2 := Mvs.below S h2
        go_wp2_with fail
        refine (K2.out _ _ _ p2.1).mono ?_
        rintro e w3 ⟨a3, c3, rfl, o3, h3⟩
        have A3 := A2.keep h3
        have M3 := M2.trans (Mvs.below S h3)
        clear A2 M2 p2
        go_wp2_with fail
        refine (K3.out _ _ _ (ownN_sl o3)).mono ?_
        rintro e w4 ⟨rfl, rfl⟩
        rw [HC0.out]
        clear o3 K1 K2 K3
        go_wp2_with fail
        refine (K4.out _ _ A3).mono ?_
        rintro e w5 ⟨rfl, h5⟩
        have A5 := A3.keep h5
        have M5 := M3.trans (Mvs.below S h5)
        clear A3 M3 K4
        go_wp2_with fail
        refine (K5.out _ _ A5).mono ?_
        rintro e w6 ⟨rfl, S6, A6, N6⟩
        have M6 := M5.trans N6
        clear A5 M5 N6 K5
        go_wp2_with fail
        refine (K6.out _ _ A6).mono ?_
        rintro e w7 ⟨rfl, S7, A7, N7⟩
        have M7 := M6.trans N7
        clear A6 M6 N7 K6
        go_wp2_with fail
        refine (K7.out _).mono ?_
        rintro e w8 ⟨rfl, h8⟩
        have M8 := M7.trans (Mvs.below _ h8)
        go_wp2_with fail
        go_ret
        exact ⟨rfl, hb.trans (M8.low hZ.out hb.size)⟩
      · have hh : hasI G.L id = true := hasI_cnt.2 hc0
        have hci : (((cnt (idsL G.L) id : Nat) : Int) == 0) = false := beq_eq_false_iff_ne.2 (by omega)
        have HC0 := Lib.hid hci
        by_cases hgg : gen = G.g
        · have hgb : (gen != G.g) = false := by simp [hgg]
          have e2 : beatE G id gen = 0 := by unfold beatE; rw [hh, hgg]; simp
          have K5 := Lib.hid (fun S w h => beat_ga k id gen G g S w (by omega) hOK h)
          rw [e2] at K5
          unfold GQ at K5
          have K4 := Lib.hid (fun S w h => may_ga k id gen part G g S w (by omega) hOK h)
          have K8 := Lib.hid (fun w h => owners_ga G g S w (by have := hOK.o1; omega) h)
          unfold RowQ at K8
          have hmE : mayE G id gen part = if 0 ≤ part ∧ part < (G.O.length : Int) ∧ G.O.getD part.toNat 0 = id then 0 else 13 := by unfold mayE; rw [hh, if_pos rfl, if_pos hgg]
          have hO4 := hOK.o1
          generalize cnt (idsL G.L) id = cc at *
          generalize beatG G id gen = G9 at *
          obtain ⟨P, hP⟩ : ∃ P, G.O.length = P := ⟨_, rfl⟩
          have HP := Lib.hid hP
          rw [hP] at hmE K8 hO4
          generalize G.g = gq at *
          clear hc0 hci e2 hh hOK hG hgg hP
          go_wp2_with fail
          refine (K1.out _ A).mono ?_
          rintro e w2 ⟨a2, c2, rfl, p2, h2⟩
          have A2 := A.keep h2
          have M2 := Mvs.below S h2
          go_wp2_with fail
          refine (K2.out _ _ _ p2.1).mono ?_
          rintro e w3 ⟨a3, c3, rfl, o3, h3⟩
          have A3 := A2.keep h3
          have M3 := M2.trans (Mvs.below S h3)
          clear A2 M2 p2
          have hcb := HC0.out
          go_wp2_with fail
          refine (K3.out _ _ _ (ownN_sl o3)).mono ?_
          rintro e w4 ⟨rfl, rfl⟩
          clear o3 K1 K2 K3
          go_wp2_with fail
          refine (K9.out _ A3).mono ?_
          rintro e w5 ⟨rfl, h5⟩
          have A5 := A3.keep h5
          have M5 := M3.trans (Mvs.below S h5)
          clear A3 M3 K9
          go_wp2_with fail
          refine (K8.out _ A5).mono ?_
          rintro e w6 ⟨a6, c6, rfl, p6, h6⟩
          have A6 := A5.keep h6
          have M6 := M5.trans (Mvs.below S h6)
          clear A5 M5 K8
          rcases (show part < 0 ∨ (0 ≤ part ∧ ¬ part < (P : Int)) ∨ (0 ≤ part ∧ part < (P : Int)) by omega) with q1 | ⟨q1, q2⟩ | ⟨q1, q2⟩
          · have q0 : ¬ 0 ≤ part := by omega
            rw [if_neg (by omega)] at hmE
            rw [hmE] at K4
            clear hmE q1
            go_wp2_with fail
            refine (K4.out _ _ A6).mono ?_
            rintro e w7 ⟨rfl, h7⟩
            have A7 := A6.keep h7
            have M7 := M6.trans (Mvs.below S h7)
            clear A6 M6
            go_wp2_with fail
            refine (K4.out _ _ A7).mono ?_
            rintro e w8 ⟨rfl, h8⟩
            have A8 := A7.keep h8
            have M8 := M7.trans (Mvs.below S h8)
            clear A7 M7
            go_wp2_with fail
            refine (K5.out _ _ A8).mono ?_
            rintro e w9 ⟨rfl, S9, A9, N9⟩
            have M9 := M8.trans N9
            clear A8 M8 N9
            go_wp2_with fail
            refine (K7.out _).mono ?_
            rintro e w10 ⟨rfl, h10⟩
            have M10 := M9.trans (Mvs.below _ h10)
            go_wp2_with fail
            go_ret
            exact ⟨rfl, hb.trans (M10.low hZ.out hb.size)⟩
          · rw [if_neg (by omega)] at hmE
            rw [hmE] at K4
            clear hmE
            go_wp2_with fail
            refine (K4.out _ _ A6).mono ?_
            rintro e w7 ⟨rfl, h7⟩
            have A7 := A6.keep h7
            have M7 := M6.trans (Mvs.below S h7)
            clear A6 M6
            go_wp2_with fail
            refine (K4.out _ _ A7).mono ?_
            rintro e w8 ⟨rfl, h8⟩
            have A8 := A7.keep h8
            have M8 := M7.trans (Mvs.below S h8)
            clear A7 M7
            go_wp2_with fail
            refine (K5.out _ _ A8).mono ?_
            rintro e w9 ⟨rfl, S9, A9, N9⟩
            have M9 := M8.trans N9
            clear A8 M8 N9
            go_wp2_with fail
            refine (K7.out _).mono ?_
            rintro e w10 ⟨rfl, h10⟩
            have M10 := M9.trans (Mvs.below _ h10)
            go_wp2_with fail
            go_ret
            exact ⟨rfl, hb.trans (M10.low hZ.out hb.size)⟩
          · obtain ⟨j, rfl⟩ : ∃ j : Nat, part = (j : Int) := ⟨part.toNat, by omega⟩
            obtain ⟨b7, o7, rfl, _, hc7⟩ := p6.1.ints (by rw [HP.out]; omega)
            have r7 := hc7 j (by rw [HP.out]; omega)
            rw [show ((j : Int)).toNat = j from by simp] at hmE
            have hb7 := (p6.2 _ rfl).2
            simp only at hb7
            generalize hv : G.O.getD j 0 = v at *
            by_cases hvi : v = id
            · rw [if_pos ⟨q1, q2, hvi⟩] at hmE
              rw [hmE] at K4
              subst hvi
              clear hmE hc7 hv p6
              go_wp2_with fail
              refine (K4.out _ _ A6).mono ?_
              rintro e w7 ⟨rfl, h7⟩
              have A7 := A6.keep h7
              have M7 := M6.trans (Mvs.below S h7)
              clear A6 M6
              go_wp2_with fail
              refine (K5.out _ _ A7).mono ?_
              rintro e w9 ⟨rfl, S9, A9, N9⟩
              have M9 := M7.trans N9
              clear A7 M7 N9
              go_wp2_with fail
              refine (K7.out _).mono ?_
              rintro e w10 ⟨rfl, h10⟩
              have M10 := M9.trans (Mvs.below _ h10)
              go_wp2_with fail
              go_ret
              exact ⟨rfl, hb.trans (M10.low hZ.out hb.size)⟩
            · rw [if_neg (fun h => hvi h.2.2)] at hmE
              rw [hmE] at K4
              have hvb : (v == id) = false := by simpa using hvi
              clear hmE hc7 hv p6 hvi
              go_wp2_with fail
              refine (K4.out _ _ A6).mono ?_
              rintro e w7 ⟨rfl, h7⟩
              have A7 := A6.keep h7
              have M7 := M6.trans (Mvs.below S h7)
              clear A6 M6
              go_wp2_with fail
              refine (K4.out _ _ A7).mono ?_
              rintro e w8 ⟨rfl, h8⟩
              have A8 := A7.keep h8
              have M8 := M7.trans (Mvs.below S h8)
              clear A7 M7
              go_wp2_with fail
              refine (K5.out _ _ A8).mono ?_
              rintro e w9 ⟨rfl, S9, A9, N9⟩
              have M9 := M8.trans N9
              clear A8 M8 N9
              go_wp2_with fail
              refine (K7.out _).mono ?_
              rintro e w10 ⟨rfl, h10⟩
              have M10 := M9.trans (Mvs.below _ h10)
              go_wp2_with fail
              go_ret
              exact ⟨rfl, hb.trans (M10.low hZ.out hb.size)⟩
        · have hgb : (gen != G.g) = true := by simpa using hgg
          have e1 : mayE G id gen part = 12 := by unfold mayE; rw [hh, if_pos rfl, if_neg hgg]
          have e2 : beatE G id gen = 12 := by unfold beatE; rw [hh, if_pos rfl, if_neg hgg]
          have K4 := Lib.hid (fun S w h => may_ga k id gen part G g S w (by omega) hOK h)
          have K5 := Lib.hid (fun S w h => beat_ga k id gen G g S w (by omega) hOK h)
          rw [e1] at K4
          rw [e2] at K5
          unfold GQ at K5
          generalize cnt (idsL G.L) id = cc at *
          generalize beatG G id gen = G9 at *
          generalize G.g = gq at *
          clear hc0 hci e1 e2 hh hOK hG hgg
          go_wp2_with fail
          refine (K1.out _ A).mono ?_
          rintro e w2 ⟨a2, c2, rfl, p2, h2⟩
          have A2 := A.keep h2
          have M2 := Mvs.below S h2
          go_wp2_with fail
          refine (K2.out _ _ _ p2.1).mono ?_
          rintro e w3 ⟨a3, c3, rfl, o3, h3⟩
          have A3 := A2.keep h3
          have M3 := M2.trans (Mvs.below S h3)
          clear A2 M2 p2
          have hcb := HC0.out
          go_wp2_with fail
          refine (K3.out _ _ _ (ownN_sl o3)).mono ?_
          rintro e w4 ⟨rfl, rfl⟩
          clear o3 K1 K2 K3
          go_wp2_with fail
          refine (K9.out _ A3).mono ?_
          rintro e w5 ⟨rfl, h5⟩
          have A5 := A3.keep h5
          have M5 := M3.trans (Mvs.below S h5)
          clear A3 M3 K9
          go_wp2_with fail
          refine (K4.out _ _ A5).mono ?_
          rintro e w6 ⟨rfl, h6⟩
          have A6 := A5.keep h6
          have M6 := M5.trans (Mvs.below S h6)
          clear A5 M5
          go_wp2_with fail
          refine (K5.out _ _ A6).mono ?_
          rintro e w9 ⟨rfl, S9, A9, N9⟩
          have M9 := M6.trans N9
          clear A6 M6 N9
          go_wp2_with fail
          refine (K7.out _).mono ?_
          rintro e w10 ⟨rfl, h10⟩
          have M10 := M9.trans (Mvs.below _ h10)
          go_wp2_with fail
          go_ret
          exact ⟨rfl, hb.trans (M10.low hZ.out hb.size)⟩
end Go.Proofs.Ytocmhmfaehnliaa
