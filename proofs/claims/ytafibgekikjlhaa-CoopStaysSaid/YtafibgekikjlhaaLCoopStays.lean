/- The walk of headgatelaw35.CoopStays. -/
import Derived.Test.YtafibgekikjlhaaCoDoes
import Derived.Test.YtafibgekikjlhaaCoStay
namespace Go.Proofs.Ytafibgekikjlhaa
open Go.RowKit Vm As
set_option linter.unusedVariables false
set_option linter.unusedSimpArgs false

set_option maxRecDepth 100000 in
set_option maxHeartbeats 8000000 in
theorem coopStays_law (parts : Int) (l : List Cd) (a : Option Addr) (c : Nat) (m : Int) (w : World) (hp : (Lit.int .i64 parts).wf = true) (hs : Sl w w.heap.size a (cdCells l)) (hci : ∀ r ∈ l, CdI w r) (hz : (a = none → c = 0) ∧ l.length ≤ c ∧ c ≤ maxLen) (hm : (Lit.int .i64 m).wf = true) :
    Calls Try.prog 7 #[.int .i64 parts, .slice a l.length c, .int .i64 m] w fun e w' => e = .returned (.bool true) ∧ Below w.heap.size w w' := by
  have KOf := Lib.hid (of35_walk parts w)
  have K7 := Lib.hid (fun w => awake35_walk w)
  have HCI := Lib.hid hci
  have HS0 := Lib.hid hs
  have hlm : l.length ≤ 9223372036854775807 := by have := hz.2.2; unfold maxLen at this; omega
  have hlc := hz.2.1
  obtain ⟨n, hn⟩ : ∃ n, l.length = n := ⟨_, rfl⟩
  rw [hn] at hlm hlc ⊢
  have HNl := Lib.hid hn
  obtain ⟨hp1, hp2⟩ := ofN_le parts
  unfold OfQ at KOf
  generalize ofN parts = pp at *
  have HOK := Lib.hid (fun k => runC_ok (l := someL l) (newC_ok hp1 hp2) k)
  clear hp hs hci hz hn
  go_enter Try.func7, Try.ntmps7
  go_wp2_with fail
  refine KOf.out.mono ?_
  rintro e w0 ⟨g, S0, rfl, A0, hZ0, b0⟩
  have KS := Lib.hid (some35_walk l n a c w0 HNl.out hlm hlc ((HS0.out.below b0 (Nat.le_refl _)).grow b0.size) (fun r hr => cdi_keep (HCI.out r hr) b0))
  unfold SomePost at KS
  have hNle : (someL l).length ≤ 100 := by rw [some_len]; omega
  have HDL := Lib.hid (fun (wr : World) (S : Nat → Prop) (C : Co) (k : Nat) (hb : Below w.heap.size w wr) (hk : k < (someL l).length) => deed_lapt (S := S) (k := k) C HCI.out hb hk)
  obtain ⟨L, hL⟩ : ∃ L, someL l = L := ⟨_, rfl⟩
  rw [hL] at KS HOK hNle HDL
  obtain ⟨N, hN⟩ : ∃ N, L.length = N := ⟨_, rfl⟩
  rw [hN] at KS hNle
  have HN := Lib.hid hN
  clear hL hN KOf HS0
  go_wp2_with fail
  refine KS.out.mono ?_
  rintro e w1 ⟨a1, c1, rfl, own1, b1⟩
  have A1 := A0.keep b1
  have q1 := Lib.hid (Apt.own A0.live own1)
  have B1 := b0.trans (b1.mono b0.size)
  obtain ⟨C0, hC0⟩ : ∃ C0, newC pp = C0 := ⟨_, rfl⟩
  rw [hC0] at A1 HOK
  clear KS A0 own1 hC0
  go_wp2_with fail
  go_loopw [8] (fun I wr => ∃ (k : Nat) (S : Nat → Prop), k ≤ N ∧ I = .int .i64 k ∧ CA wr g (runC C0 L k) S ∧ Hid (Apt wr S a1 (cdCells L)) ∧ Hid (∀ x, S x → w.heap.size ≤ x) ∧ Below w.heap.size w wr) (fun I _ => N - (intOf I).toNat)
  case atStart => exact ⟨0, S0, by omega, rfl, A1, q1, hZ0, B1⟩
  case round =>
    obtain ⟨k, S, hk, rfl, A, q, hZ, hb⟩ := hrel
    by_cases hlt : k < N
    · have hil : k < L.length := by rw [HN.out]; exact hlt
      have hlt2 : (k : Int) < (N : Int) := by omega
      have hk0 : 0 ≤ (k : Int) := by omega
      obtain ⟨b2, o2, rfl, hb2, r0, r1, r2, r3, r4⟩ := q.out.1.cd5 hil
      have hOK := HOK.out k
      have HOK1 := Lib.hid (HOK.out (k + 1))
      have HDk := Lib.hid (HDL.out wr S (runC C0 L k) k hb hil)
      have HRS := Lib.hid (show runC C0 L (k + 1) = doesC (runC C0 L k) (aimF (L.getD k cd0) (runC C0 L k)) from rfl)
      obtain ⟨C, hC⟩ : ∃ C, runC C0 L k = C := ⟨_, rfl⟩
      have HCk := Lib.hid hC
      rw [hC] at hOK HDk HRS A
      obtain ⟨x, hx⟩ : ∃ x, L.getD k cd0 = x := ⟨_, rfl⟩
      have HXk := Lib.hid hx
      rw [hx] at r0 r1 r2 r3 r4 HDk HRS
      have KA := Lib.hid (aimed35_walk k x C g S wr hOK A)
      obtain ⟨y, hy⟩ : ∃ y, aimF x C = y := ⟨_, rfl⟩
      have HY := Lib.hid hy
      rw [hy] at KA HDk HRS
      have KD := Lib.hid (fun w' (h : Below wr.heap.size wr w') => does35_walk k y C g S w' (by omega) hOK (A.keep h) ⟨HDk.out.1, HDk.out.2.1, HDk.out.2.2.1, (HDk.out.2.2.2.below h (Nat.le_refl _)).grow h.size⟩)
      rw [← HRS.out] at KD
      unfold DoQ at KD
      unfold AimPost at KA
      obtain ⟨C', hC'⟩ : ∃ C', runC C0 L (k + 1) = C' := ⟨_, rfl⟩
      have HC' := Lib.hid hC'
      rw [hC'] at KD HOK1
      have HA := Lib.hid A
      obtain ⟨xk, xmm, xp, xn, xl, xa, xc⟩ := x
      unfold cdV at KA KD
      simp only at KA KD r0 r1 r2 r3 r4
      generalize doesE C y = E at KD
      clear hC hx hy hOK A hC'
      go_wp2_with fail
      refine KA.out.mono ?_
      rintro e w2 ⟨rfl, b2'⟩
      have KD2 := Lib.hid (KD.out w2 b2')
      clear KA KD r0 r1 r2 r3 r4
      go_wp2_with fail
      refine KD2.out.mono ?_
      rintro e w3 ⟨rfl, S3, A3, M3⟩
      have M23 := (Mvs.below S b2').trans M3
      have q3 := Lib.hid (q.out.mvs M23)
      have hZ3 := Lib.hid (fun x hx => M23.low2 hZ.out hb.size x hx)
      have B3 := hb.trans (M23.low hZ.out hb.size)
      clear KD2 M3 M23 b2' hb2
      have A3' := Lib.hid A3
      have B3' := Lib.hid B3
      clear A3 B3
      go_wp2_with fail
      go_roundw
      case rel => exact ⟨k + 1, S3, by omega, by go_num, by rw [HC'.out]; exact A3'.out, q3, hZ3, B3'.out⟩
      case measure => simp [intOf]; omega
    · obtain rfl : k = N := by omega
      have hOK := HOK.out k
      obtain ⟨C, hC⟩ : ∃ C, runC C0 L k = C := ⟨_, rfl⟩
      rw [hC] at A hOK
      have HOf := Lib.hid hOK
      have KT := Lib.hid (crests_ca k C g S wr hOK A)
      clear hC HOK HDL hOK hm q
      by_cases hr : C.H = C.W
      · rw [decide_eq_true hr] at KT
        have HR := Lib.hid hr
        clear hr
        go_wp2_with fail
        refine KT.out.mono ?_
        rintro e w2 ⟨rfl, h2⟩
        have A2 := A.keep h2
        have B2 := hb.trans (h2.mono hb.size)
        have hal := balloc w2 (.cells #[.int .i64 m] 3)
        have L2 := lapt_lit A2 m
        have KJ := Lib.hid (join_ca k [m] 1 _ _ C g S _ (by omega) HOf.out L2 (A2.keep hal))
        unfold CQ at KJ
        have HOJ := Lib.hid (joinC_ok (l := [m]) HOf.out)
        have HST := Lib.hid (fun h => stays_ok HOf.out HR.out (m := m) h)
        obtain ⟨E, hE⟩ : ∃ E, joinE C [m] = E := ⟨_, rfl⟩
        rw [hE] at KJ HST
        obtain ⟨C', hC'⟩ : ∃ C', joinC C [m] = C' := ⟨_, rfl⟩
        rw [hC'] at KJ HOJ HST
        have B2' := Lib.hid (B2.trans (hal.mono B2.size))
        have N2 := Lib.hid (hal.size)
        clear KT A2 L2 hal hE hC' A B2 hb h2
        go_wp2_with fail
        refine KJ.out.mono ?_
        rintro e w3 ⟨rfl, S3, A3, M3⟩
        have B3 := B2'.out.trans (M3.low hZ.out B2'.out.size)
        have hZ3 := Lib.hid (fun x hx => M3.low2 hZ.out B2'.out.size x hx)
        clear KJ M3
        by_cases hE0 : E = 0
        · subst hE0
          have HS := Lib.hid (HST.out rfl)
          obtain ⟨q, hq⟩ : ∃ q, C'.M.length = q := ⟨_, rfl⟩
          obtain ⟨P, hP⟩ : ∃ P, C'.H.length = P := ⟨_, rfl⟩
          have hq8 : q ≤ 8 := by rw [← hq]; exact HOJ.out.b.ml
          have hP16 : P ≤ 16 := by rw [← hP]; exact HOJ.out.b.h1
          have hWl : C'.W.length = P := by rw [HOJ.out.b.wl, hP]
          have KM := Lib.hid (cmembers_ca (k + 1) C' g S3 w3 HOJ.out A3)
          have KW := Lib.hid (fun w' h => cwant_ca (k + 1) C' g S3 w' HOJ.out h)
          unfold RowQ at KM KW
          rw [hq] at KM
          rw [hWl] at KW
          obtain ⟨own, hown⟩ : ∃ own, cnt C'.W m = own := ⟨_, rfl⟩
          have hown16 : own ≤ 16 := by
            have := cnt_le C'.W m
            omega
          have HQ := Lib.hid hq
          have HP := Lib.hid hP
          have HWl := Lib.hid hWl
          have HOw := Lib.hid hown
          clear HST hq hP hWl hown
          go_wp2_with fail
          refine KM.out.mono ?_
          rintro e w4 ⟨a4, c4, rfl, p4, h4⟩
          have A4 := Lib.hid (A3.keep h4)
          have P4 := Lib.hid p4
          have B4 := B3.trans (h4.mono B3.size)
          have h4z := B4.size
          clear KM A3 B3 p4 h4
          go_wp2_with fail
          go_loopw [10, 11] (fun NN I wr => ∃ (i s : Nat), i ≤ q ∧ s ≤ own ∧ I = .int .i64 i ∧ NN = .int .i64 s ∧ Hid (s = sumRev C' P (C'.M.take i)) ∧ Below w4.heap.size w4 wr) (fun _ I _ => q - (intOf I).toNat)
          case atStart => exact ⟨0, 0, by omega, by omega, rfl, rfl, Lib.hid rfl, Below.refl _ _⟩
          case round =>
            obtain ⟨i, s, hi, hs, rfl, rfl, HSm, hbi⟩ := hrel
            by_cases hli : i < q
            · have hli2 : (i : Int) < (q : Int) := by omega
              have hi0 : 0 ≤ (i : Int) := by omega
              have hiM : i < C'.M.length := by rw [HQ.out]; exact hli
              obtain ⟨bm, om, rfl, hbm, hcm⟩ := (P4.out.keep hbi).1.ints (by omega)
              have r0 := hcm i hiM
              have hsn := sumRev_snoc C' P C'.M hiM
              have hfew := HS.out.few (i + 1) (by omega)
              have hown := HS.out.own
              rw [HP.out, hsn, ← HSm.out, HOw.out] at hfew
              rw [← HSm.out] at hsn
              have hcx : C'.M.contains (C'.M.getD i 0) = true := by rw [List.contains_iff_mem]; exact getD_mem0 hiM
              have KR := revoke_ca (k + 1) (C'.M.getD i 0) C' g S3 wr HOJ.out (A4.out.keep hbi)
              unfold RevQ at KR
              have hRL : revL C' (C'.M.getD i 0) = revTo C' (C'.M.getD i 0) P := by unfold revL; rw [if_pos hcx, HP.out]
              have hRE : revE C' (C'.M.getD i 0) = 0 := by unfold revE; rw [if_pos hcx]
              rw [hRE] at KR
              rw [← hRL] at hsn hfew
              have hx0 : C'.M.getD i 0 = m → (revL C' (C'.M.getD i 0)).length = 0 := fun e => by rw [e, hown]; rfl
              obtain ⟨x, hx⟩ : ∃ x, C'.M.getD i 0 = x := ⟨_, rfl⟩
              rw [hx] at r0 hsn hfew KR hx0
              generalize revL C' x = Rx at *
              obtain ⟨d, hd⟩ : ∃ d, Rx.length = d := ⟨_, rfl⟩
              rw [hd] at hsn hfew KR hx0
              have KR' := Lib.hid KR
              have HN2 := Lib.hid hsn.symm
              have hw : IntKind.i64.wrap ((s : Int) + (d : Int)) = ((s + d : Nat) : Int) := by rw [IntWalk.i64_in _ (by omega)]; omega
              have Hw := Lib.hid hw
              clear hcm hx hRL hRE hcx hsn KR hd hown hw hiM
              by_cases hxm : x = m
              · have hd0 := hx0 hxm
                subst hd0
                have g1 : (x == m) = true := beq_iff_eq.2 hxm
                clear hx0 hxm
                go_wp2_with fail
                refine KR'.out.mono ?_
                rintro e w5 ⟨a5, c5, rfl, p5, h5⟩
                have B5 := gtrans hbi h5
                obtain ⟨bm', om', e', hbm', hcm⟩ := (P4.out.keep B5).1.ints (by rw [HQ.out]; omega)
                injection e' with e'
                injection e' with e1 e2 _
                subst e1 e2
                have r1 := hcm i (by rw [HQ.out]; exact hli)
                have r1' : w5.cell? ⟨bm, om + i, none⟩ = some (.int .i64 x) := by
                  have := h5.cell (p := ⟨bm, om + i, none⟩) hbm
                  rw [this]; exact r0
                clear KR' r0 r1 hcm p5 h5
                go_wp2_with fail
                go_roundw
                case rel => exact ⟨i + 1, s, by omega, by omega, by go_num, by go_num, HN2, B5⟩
                case measure => simp [intOf]; omega
              · have g1 : (x == m) = false := beq_eq_false_iff_ne.2 hxm
                clear hx0 hxm
                go_wp2_with fail
                refine KR'.out.mono ?_
                rintro e w5 ⟨a5, c5, rfl, p5, h5⟩
                have B5 := gtrans hbi h5
                have r1' : w5.cell? ⟨bm, om + i, none⟩ = some (.int .i64 x) := by
                  have := h5.cell (p := ⟨bm, om + i, none⟩) hbm
                  rw [this]; exact r0
                have hbm5 : bm < w5.heap.size := by have := h5.size; omega
                clear KR' r0 p5 h5
                go_upto_region 19 with fail
                have hw := Hw.out
                go_upto_region 15 with fail
                clear hw
                go_wp2_with fail
                go_roundw
                case rel => exact ⟨i + 1, s + d, by omega, by omega, by go_num, by go_num, HN2, B5⟩
                case measure => simp [intOf]; omega
            · obtain rfl : i = q := by omega
              have KW2 := Lib.hid (KW.out wr (A4.out.keep hbi))
              have hfull : C'.M.take i = C'.M := List.take_of_length_le (by rw [HQ.out]; exact Nat.le_refl _)
              rw [hfull] at HSm
              have h1 := HS.out.one
              rw [HQ.out, HP.out, ← HSm.out] at h1
              have B5 := B4.trans (hbi.mono h4z)
              clear KW hfull
              go_wp2_with fail
              refine KW2.out.mono ?_
              rintro e w6 ⟨a6, c6, rfl, p6, h6⟩
              have KC := Lib.hid (rcount_walk C'.W P m a6 c6 w6.heap.size w6 HWl.out (by omega) p6.1 (Nat.le_refl _))
              rw [HOw.out] at KC
              have B6 := B5.trans (h6.mono B5.size)
              clear KW2 p6 h6 B5
              have g1 : (s : Int) ≤ (own : Int) := by omega
              rcases (show (¬ i ≤ 1) ∨ i ≤ 1 by omega) with hi1 | hi1
              · have g2 : (1 : Int) < (i : Int) := by omega
                clear h1
                go_wp2_with fail
                refine KC.out.mono ?_
                rintro e w7 ⟨rfl, hw7⟩
                subst hw7
                clear KC
                go_wp2_with fail
                refine (K7.out _).mono ?_
                rintro e w12 ⟨rfl, h12⟩

                go_wp2_with fail
                go_ret
                exact ⟨rfl, B6.trans (h12.mono B6.size)⟩
              · have hs0 := h1 hi1
                subst hs0
                have g2 : ¬ (1 : Int) < (i : Int) := by omega
                have g3 : (0 : Int) ≤ (own : Int) := by omega
                clear h1
                go_wp2_with fail
                refine KC.out.mono ?_
                rintro e w7 ⟨rfl, hw7⟩
                subst hw7
                clear KC
                go_wp2_with fail
                refine (K7.out _).mono ?_
                rintro e w12 ⟨rfl, h12⟩

                go_wp2_with fail
                go_ret
                exact ⟨rfl, B6.trans (h12.mono B6.size)⟩
        · have g1 : (E != 0) = true := bne_iff_ne.2 hE0
          clear HST hE0
          go_wp2_with fail
          refine (K7.out _).mono ?_
          rintro e w12 ⟨rfl, h12⟩

          go_wp2_with fail
          go_ret
          exact ⟨rfl, B3.trans (h12.mono B3.size)⟩
      · rw [decide_eq_false hr] at KT
        clear hr
        go_wp2_with fail
        refine KT.out.mono ?_
        rintro e w2 ⟨rfl, h2⟩
        have B2 := hb.trans (h2.mono hb.size)
        go_wp2_with fail
        refine (K7.out _).mono ?_
        rintro e w12 ⟨rfl, h12⟩

        go_wp2_with fail
        go_ret
        exact ⟨rfl, B2.trans (h12.mono B2.size)⟩
end Go.Proofs.Ytafibgekikjlhaa
