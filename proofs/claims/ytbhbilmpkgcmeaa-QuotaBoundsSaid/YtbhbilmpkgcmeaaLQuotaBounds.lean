/- The walk of the statement QuotaBounds of layer 36. -/
import Derived.Test.YtbhbilmpkgcmeaaQuLaw4
import Derived.Test.YtbhbilmpkgcmeaaApp
import Derived.BigQuiet
namespace Go.Proofs.Ytbhbilmpkgcmeaa
open Go.RowKit Vm
set_option linter.unusedVariables false

theorem info_ak2 : (Try.prog.info? 76).map (fun i => (i.zero, i.size, i.bytes)) = some (some (.agg #[.int .i64 0, .int .i64 0, .int .i64 0]), 3, 24) := by kernel_rfl
theorem ak_one' (a b c : Int) : ∀ v ∈ ([.int .i64 a, .int .i64 b, .int .i64 c] : List Value), v.oneCell' = true := fun v hv => by simp at hv; rcases hv with rfl | rfl | rfl <;> rfl
set_option maxRecDepth 100000 in
set_option maxHeartbeats 8000000 in
theorem quotaBounds_law (t m : Int) (l : List Ak) (a : Option Addr) (c : Nat) (w : World) (ht0 : (Lit.int .i64 t).wf = true) (hm0 : (Lit.int .i64 m).wf = true)
    (hl1 : Sl w w.heap.size a (akCells l)) (hi1 : ∀ r ∈ l, AkI r) (hc1 : (a = none → c = 0) ∧ l.length ≤ c ∧ c ≤ maxLen) :
    Calls Try.prog 11 #[.agg #[.int .i64 t, .int .i64 m], .slice a l.length c] w fun e w' => e = .returned (.bool true) ∧ Below w.heap.size w w' := by
  have hal := balloc w (.cells #[.int .i64 t, .int .i64 m] 60)
  obtain ⟨ls, hls, hsl⟩ := asks_cut 60 hl1 hc1.2.1
  obtain ⟨N, hN⟩ : ∃ N, l.length = N := ⟨_, rfl⟩
  rw [hN] at hc1 hls ⊢
  obtain ⟨_, hc2, _⟩ := hc1
  have hc60 : 60 < N → (60 : Int) ≤ (c : Int) := fun h => by omega
  by_cases hq : ¬ MayQ t m
  · have HM := Lib.hid (fun w => rmay36_no t m w hq)
    clear hq hls hi1 ht0 hm0 hl1
    rcases (show 60 < N ∨ ¬ 60 < N by omega) with h3 | h3
    all_goals
      first | (have hc3 := hc60 h3) | skip
      have h4 : (60 : Int) < (N : Int) ∨ ¬ (60 : Int) < (N : Int) := by omega
      go_enter Try.func11, Try.ntmps11
      go_wp2_with fail
      refine (HM.out _).mono ?_
      rintro e w1 ⟨rfl, g1⟩
      go_wp2_with fail
      refine (awake36_walk _).mono ?_
      rintro e w2 ⟨rfl, g2⟩
      go_wp2_with fail
      go_ret
      exact ⟨rfl, gtrans (gtrans hal g1) g2⟩
  have hq := Classical.not_not.1 hq
  have HM := Lib.hid (fun w => rmay36_yes t m w hq)
  have HQ := Lib.hid hq
  have ht1 := hq.1
  have ht2 := hq.2.1
  have hm1 := hq.2.2.1
  have hm2 := hq.2.2.2
  have c0 : ∀ w1, Below (w.heap.size + 1) (w.alloc (.cells #[.int .i64 t, .int .i64 m] 60)) w1 → w1.cell? ⟨w.heap.size, 0, none⟩ = some (.int .i64 t) ∧ w1.cell? ⟨w.heap.size, 1, none⟩ = some (.int .i64 m) := fun w1 g => by
    refine ⟨?_, ?_⟩ <;> (rw [g.cell (by simp), World.cell?_alloc_at _ _ _ _ rfl]; rfl)
  have C0 := Lib.hid c0
  have hal2 : w.heap.size + 1 ≤ (w.alloc (.cells #[.int .i64 t, .int .i64 m] 60)).heap.size := by simp
  have hsl0 := (hsl.below hal (Nat.le_refl _)).grow hal.size
  obtain ⟨M, hM⟩ : ∃ M, M = ls.length := ⟨_, rfl⟩
  have hM60 : M ≤ 60 := by omega
  have HNe := Lib.hid hM
  obtain ⟨i0, hi, hz0, hz1, hz2⟩ := info_parts info_ak2
  rcases (show (60 < N ∧ M = 60) ∨ (¬ 60 < N ∧ M = N) by omega) with ⟨h3, rfl⟩ | ⟨h3, rfl⟩
  all_goals
    first | (have hc3 := hc60 h3; have hd1 : decide ((60 : Int) < (N : Int)) = true := decide_eq_true (by omega)) | (have hd1 : decide ((60 : Int) < (M : Int)) = false := decide_eq_false (by omega))
    clear hc60 hq hls hi1 ht0 hm0 hl1 c0 hsl hM
    go_enter Try.func11, Try.ntmps11
    go_wp2_with fail
    refine (HM.out _).mono ?_
    rintro e w1 ⟨rfl, g1⟩
    have q1 := g1.mono hal2
    have s1 := (hsl0.below g1 (Nat.le_refl _)).grow g1.size
    have z1 : w.heap.size + 1 ≤ w1.heap.size := Nat.le_trans hal2 g1.size
    have b1 := gtrans hal g1
    clear hsl0 HM
    go_wp2_with fail
    go_loopw [5, 6, 7, 8] (fun A K T I wr => ∃ (k : Nat) (acs : List Ac) (tk : List Ak) (a1 a2 : Option Addr) (c1 c2 : Nat) (nw : Int), k ≤ ls.length ∧ I = .int .i64 k ∧ T = .int .i64 nw ∧ A = .slice a1 acs.length c1 ∧ K = .slice a2 tk.length c2 ∧ Sl wr wr.heap.size a1 (acCells acs) ∧ wr.ownsRow w1.heap.size 76 3 (.slice a2 tk.length c2) tk.length (akCells tk) ∧ Hid (Four t m acs nw) ∧ Hid (InvB t m tk acs nw) ∧ tk.length ≤ k ∧ 0 ≤ nw ∧ nw ≤ 1023 * (k : Int) ∧ Below w1.heap.size w1 wr) (fun _ _ _ I _ => ls.length - (intOf I).toNat)
    case atStart => exact ⟨0, [], [], none, none, 0, 0, 0, by omega, rfl, rfl, rfl, rfl, .inl rfl, World.ownsRow_nil _ _ _ _, Lib.hid (four_nil t m 0), Lib.hid (invB_nil t m 0 []), Nat.le_refl _, by omega, by omega, Below.refl _ _⟩
    case round =>
      obtain ⟨k, acs, tk, a1, a2, c1, c2, nw, hk, rfl, rfl, rfl, rfl, sac, own, HF, HB, htk, hnw0, hnw1, hbw⟩ := hrel
      have qr := q1.trans (hbw.mono z1)
      have zr : w.heap.size + 1 ≤ wr.heap.size := Nat.le_trans z1 hbw.size
      have hbz := hbw.size
      obtain ⟨d0, d1⟩ := C0.out _ qr
      by_cases hlt : k < ls.length
      · obtain ⟨gb, go, rfl, hgb, hgc⟩ := ((s1.below hbw (Nat.le_refl _)).grow hbw.size).ak (by omega)
        obtain ⟨r0, r1, r2⟩ := hgc k hlt
        generalize ls.getD k ak0 = x at *
        obtain ⟨xw, xn, xt⟩ := x
        simp only at r0 r1 r2
        obtain ⟨y0, hy0, y0a, y0b⟩ := mask_of xw 3 (by omega) (by omega)
        obtain ⟨y1, hy1, y1a, y1b⟩ := mask_of xn 65535 (by omega) (by omega)
        obtain ⟨y2, hy2, y2a, y2b⟩ := mask_of xt 1023 (by omega) (by omega)
        rw [← HNe.out] at hlt hk
        obtain ⟨D, W, E, hT, hT4, hE, hF2, hDl⟩ := round4 (who := y0) (n := y1) HQ.out HF.out hnw0 y2a (by omega) ⟨y0a, y0b⟩ y1a
        have HB1 := Lib.hid (invB_later ht1 y2a HB.out)
        have hwn : IntKind.i64.wrap (nw + y2) = nw + y2 := IntWalk.i64_in _ (by omega)
        have HT := Lib.hid (fun w5 h5 => qtake_fresh t m acs acs.length a1 c1 w5.heap.size y0 y1 (nw + y2) w5 D W E rfl hT h5 (Nat.le_refl _))
        unfold QPostF at HT
        have HF2 := Lib.hid hF2
        have HT4 := Lib.hid hT4
        clear hgc hT hF2 HF hT4 HB
        go_wp2_with fail
        refine (HT.out _ sac).mono ?_
        rintro e w5 ⟨a5, c5, rfl, s5, g5, _, _, hfr⟩
        have hlt5 := fun g hg => (own.lt g hg).2
        have sac5 := (sac.below g5 (Nat.le_refl _)).grow g5.size
        have own5 := own_keep own g5
        have b5 := hbw.trans (g5.mono hbw.size)
        have hz5 : w1.heap.size ≤ w5.heap.size := Nat.le_trans hbz g5.size
        clear own sac
        rcases hE with ⟨rfl, rfl, rfl, hmn⟩ | ⟨rfl, hF5⟩ | ⟨rfl, hF5⟩
        · go_wp2_with fail
          go_roundw
          case rel => exact ⟨k + 1, acs, tk, a1, a2, c1, c2, nw + y2, by rw [← HNe.out]; omega, by go_num, rfl, rfl, rfl, sac5, own5, HF2, HB1, by omega, by omega, by omega, b5⟩
          case measure => rw [← HNe.out]; simp [intOf]; omega
        · have HF5 := Lib.hid hF5
          have HB5 := Lib.hid (invB_take HQ.out HF2.out ⟨y1a, y1b⟩ ⟨y0a, y0b⟩ (by omega) HT4.out HB1.out)
          have hal5 := balloc w5 (.cells #[.int .i64 y0, .int .i64 y1, .int .i64 (nw + y2)] 76)
          have HO := Lib.hid (own5.alloc (.cells #[.int .i64 y0, .int .i64 y1, .int .i64 (nw + y2)] 76))
          have HA := Lib.hid (b5.alloc hz5 (.cells #[.int .i64 y0, .int .i64 y1, .int .i64 (nw + y2)] 76))
          have HS5 := Lib.hid ((s5.below hal5 (Nat.le_refl _)).grow hal5.size)
          have HFR := Lib.hid hfr
          have HLT := Lib.hid hlt5
          clear hF5 own5 s5 sac5 hal5 hfr hlt5
          go_wp2_with (at_builtin; refine wp_app2 rfl _ _ 74 rfl w1.heap.size 76 i0 (.agg #[.int .i64 0, .int .i64 0, .int .i64 0]) 3 24 Try.underlying74 hi hz0 hz1 hz2 rfl (by decide) _ _ _ rfl HO.out _ _ _ rfl [.int .i64 y0, .int .i64 y1, .int .i64 (nw + y2)] _ w1 rfl (sl_fresh _ [.int .i64 y0, .int .i64 y1, .int .i64 (nw + y2)] 76) (fun h => by cases h) (ak_one' _ _ _) ?c1 ?c2 ?c3 HA.out ?_)
          case c1 => unfold maxLen; omega
          case c2 => omega
          case c3 => simp; omega
          intro a6 c6 w6 own6 b6 hk6
          have s6 := Lib.hid (sl_apart HS5.out hk6 HLT.out HFR.out)
          have HL6 := Lib.hid (show (tk ++ [(⟨y0, y1, nw + y2⟩ : Ak)]).length = tk.length + 1 by simp)
          have own7 := Lib.hid (show w6.ownsRow w1.heap.size 76 3 (.slice a6 (tk ++ [(⟨y0, y1, nw + y2⟩ : Ak)]).length c6) (tk ++ [(⟨y0, y1, nw + y2⟩ : Ak)]).length (akCells (tk ++ [⟨y0, y1, nw + y2⟩])) by
            rw [HL6.out, akCells_snoc]; exact own6)
          clear own6 hk6
          go_wp2_with fail
          go_roundw
          case rel => exact ⟨k + 1, D, tk ++ [⟨y0, y1, nw + y2⟩], a5, a6, c5, c6, nw + y2, by rw [← HNe.out]; omega, by go_num, rfl, rfl, by rw [HL6.out], s6.out, own7.out, HF5, HB5, by rw [HL6.out]; omega, by omega, by omega, b6⟩
          case measure => rw [← HNe.out]; simp [intOf]; omega
        · have HF5 := Lib.hid hF5
          have HB5 := Lib.hid (invB_wait HT4.out HB1.out)
          clear hF5
          go_wp2_with fail
          go_roundw
          case rel => exact ⟨k + 1, D, tk, a5, a2, c5, c2, nw + y2, by rw [← HNe.out]; omega, by go_num, rfl, rfl, rfl, s5, own5, HF5, HB5, by omega, by omega, by omega, b5⟩
          case measure => rw [← HNe.out]; simp [intOf]; omega
      · have hk2 : k = ls.length := by omega
        rw [← HNe.out] at hk hlt hk2
        have hlt2 : ¬ (k : Int) < _ := fun h => hlt (Int.ofNat_lt.1 h)
        have br := gtrans b1 hbw
        have stk := ownN_sl own
        have hT60 : tk.length ≤ 60 := by omega
        have HT3 := Lib.hid HB.out.three
        have HT1 := Lib.hid HB.out.one
        obtain ⟨P, hP⟩ : ∃ P, tk.length = P := ⟨_, rfl⟩
        rw [hP] at hT60 own
        have HP := Lib.hid hP
        have hnw9 : nw ≤ 70000 := by omega
        clear own sac HF HB hk2 hlt htk hnw1
        rw [hP]
        clear hP
        go_wp2_with fail
        obtain ⟨wo, rfl⟩ : ∃ wo : World, wo = wr := ⟨_, rfl⟩
        go_loopw [14] (fun I wx => ∃ (i : Nat), i ≤ P ∧ I = .int .i64 i ∧ Below wo.heap.size wo wx) (fun I _ => P - (intOf I).toNat)
        case atStart => exact ⟨0, by omega, rfl, Below.refl _ _⟩
        case round =>
          obtain ⟨i, hiP, rfl, hbx⟩ := hrel
          obtain ⟨wp, rfl⟩ : ∃ wp : World, wp = wr := ⟨_, rfl⟩
          by_cases hilt : i < P
          · have hil : i < tk.length := by rw [HP.out]; exact hilt
            obtain ⟨b2, o2, rfl, hb2, _⟩ := ((stk.below hbx (Nat.le_refl _)).grow hbx.size).ak (by omega)
            go_wp2_with fail
            go_loopw [15, 16] (fun S K wz => ∃ (k : Nat) (s : Int), i ≤ k ∧ k ≤ P ∧ K = .int .i64 k ∧ S = .int .i64 s ∧ Hid (s = sumW ((tk.take k).drop i) (tk.getD i ak0).w) ∧ 0 ≤ s ∧ s ≤ 65535 * (k : Int) ∧ Below wp.heap.size wp wz) (fun _ K _ => P - (intOf K).toNat)
            case atStart => exact ⟨i, 0, Nat.le_refl _, by omega, rfl, rfl, Lib.hid (by rw [List.drop_of_length_le (by rw [List.length_take]; omega)]; rfl), by omega, by omega, Below.refl _ _⟩
            case round =>
              obtain ⟨k, s, hik, hkP, rfl, rfl, HS, hs0, hs1, hbz2⟩ := hrel
              by_cases hklt : k < P
              · have hkl : k < tk.length := by rw [HP.out]; exact hklt
                have stz := (stk.below hbx (Nat.le_refl _)).below hbz2 hbx.size
                obtain ⟨u0, u1, u2⟩ := ak_cells stz k hkl
                obtain ⟨v0, v1, v2⟩ := ak_cells stz i hil
                have qz := (qr.trans (hbx.mono zr)).trans (hbz2.mono (Nat.le_trans zr hbx.size))
                clear d0 d1
                obtain ⟨d0, d1⟩ := C0.out _ qz
                have hone := HT1.out i k hik hkl
                have hstep := sumW_step tk i k (tk.getD i ak0).w hik hkl
                rw [← HS.out] at hstep
                obtain ⟨⟨m1, m2⟩, _, m3, m4⟩ := HT3.out _ (getD_mem tk ak0 k hkl)
                obtain ⟨_, _, n3, n4⟩ := HT3.out _ (getD_mem tk ak0 i hil)
                rw [hstep] at hone
                have HST := Lib.hid hstep
                clear hstep stz HS
                generalize tk.getD i ak0 = y at *
                generalize tk.getD k ak0 = x at *
                obtain ⟨xw', xn', xt'⟩ := x
                obtain ⟨yw', yn', yt'⟩ := y
                simp only at u0 u1 u2 v0 v1 v2 hone HST m1 m2 m3 m4 n3 n4
                have hmb := mul_bound4 (t := t) (d := xt' - yt') (by omega) ht2 (by omega) (by omega)
                have hzb : b2 < wr.heap.size := by have := hbz2.size; have := hbx.size; omega
                by_cases hww : xw' = yw'
                · subst hww
                  rw [if_pos rfl] at hone HST
                  have e1 : t * (xt' - yt') = (xt' - yt') * t := Int.mul_comm _ _
                  rw [e1] at hone
                  have w1' : IntKind.i64.wrap (xt' - yt') = xt' - yt' := IntWalk.i64_in _ (by omega)
                  have w2' : IntKind.i64.wrap ((xt' - yt') * t) = (xt' - yt') * t := IntWalk.i64_in _ (by omega)
                  have w3' : IntKind.i64.wrap (m + (xt' - yt') * t) = m + (xt' - yt') * t := IntWalk.i64_in _ (by omega)
                  have w4' : IntKind.i64.wrap (s + xn') = s + xn' := IntWalk.i64_in _ (by omega)
                  have dd : decide (m + (xt' - yt') * t < s + xn') = false := decide_eq_false (by omega)
                  have hs3 := Lib.hid (show s + xn' ≤ 65535 * ((k + 1 : Nat) : Int) by omega)
                  have HST2 := Lib.hid (show s + xn' = sumW ((tk.take (k + 1)).drop i) xw' from HST.out.symm)
                  clear hone e1 hmb HST
                  go_wp2_with fail
                  go_quiet (fail)
                  go_wp2_with fail
                  go_quiet (fail)
                  go_wp2_with fail
                  go_roundw
                  case rel => exact ⟨k + 1, s + xn', by omega, by omega, by go_num, rfl, HST2, by omega, hs3.out, hbz2.trans (by first | exact below_drewN _ _ _ | exact (below_drewN _ _ _).trans (below_drewN _ _ _))⟩
                  case measure => simp [intOf]; omega
                · rw [if_neg hww, Int.add_zero] at hone HST
                  have dq : (xw' == yw') = false := by simpa using hww
                  have dq2 : decide (xw' = yw') = false := decide_eq_false hww
                  have HST2 := Lib.hid (show s = sumW ((tk.take (k + 1)).drop i) yw' from HST.out.symm)
                  clear hone hmb HST
                  go_wp2_with fail
                  go_quiet (fail)
                  go_wp2_with fail
                  go_roundw
                  case rel => exact ⟨k + 1, s, by omega, by omega, by go_num, rfl, HST2, by omega, by omega, hbz2.trans (below_drewN _ _ _)⟩
                  case measure => simp [intOf]; omega
              · have hbq := hbx.trans (hbz2.mono hbx.size)
                go_wp2_with fail
                go_roundw
                case rel => exact ⟨i + 1, by omega, by go_num, hbq⟩
                case measure => simp [intOf]; omega
          · go_wp2_with fail
            refine (awake36_walk _).mono ?_
            rintro e w6 ⟨rfl, g6⟩
            go_wp2_with fail
            go_ret
            exact ⟨rfl, gtrans (gtrans br hbx) g6⟩
end Go.Proofs.Ytbhbilmpkgcmeaa
