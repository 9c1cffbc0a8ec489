/- The walk of the statement TxnEpochs of layer 12. -/
import Derived.Test.YtfjnmjibifefgaaTxRow
import Derived.Test.YtfjnmjibifefgaaNtOpen
namespace Go.Proofs.Ytfjnmjibifefgaa
open Go.RowKit Vm
set_option linter.unusedVariables false

set_option maxRecDepth 100000 in
set_option maxHeartbeats 8000000 in
theorem txnEpochs_law (l : List Nt) (a : Option Addr) (c : Nat) (w : World) (hl1 : Sl w w.heap.size a (ntCells l)) (hi1 : ∀ r ∈ l, NtI r) (hc1 : (a = none → c = 0) ∧ l.length ≤ c ∧ c ≤ maxLen) :
    Calls Try.prog 10 #[.slice a l.length c] w fun e w' => e = .returned (.bool true) ∧ Below w.heap.size w w' := by
  obtain ⟨N, hN⟩ : ∃ N, l.length = N := ⟨_, rfl⟩
  rw [hN]
  have HNe := Lib.hid hN
  clear hN hi1 hc1
  go_enter Try.func10, Try.ntmps10
  go_wp2_with fail
  go_loopw [3, 4] (fun R I wr => ∃ (k : Nat) (rs : List Tr) (a' : Option Addr) (c' : Nat), k ≤ N ∧ k ≤ 100 ∧ I = .int .i64 k ∧ R = .slice a' rs.length c' ∧ rs.length ≤ 9 ∧ Sl wr wr.heap.size a' (trCells rs) ∧ Below w.heap.size w wr) (fun _ I _ => 100 - (intOf I).toNat)
  case atStart => exact ⟨0, [], none, 0, by omega, by omega, rfl, rfl, by simp, .inl rfl, Below.refl _ _⟩
  case round =>
    obtain ⟨k, rs, a', c', hk, hk100, rfl, rfl, hrl, srs, hbw⟩ := hrel
    by_cases hlt : k < N
    · by_cases h100 : k < 100
      · have hkl : k < l.length := by rw [HNe.out]; exact hlt
        have snt := (hl1.below hbw (Nat.le_refl _)).grow hbw.size
        obtain ⟨b1, o1, rfl, hb1, hc⟩ := snt.nt (by omega)
        obtain ⟨r0, r1, r2⟩ := hc k hkl
        have HFi := Lib.hid (foldF_is rs (l.getD k nt0))
        have hDl := foldF_len rs (l.getD k nt0)
        clear hc snt
        generalize l.getD k nt0 = x at *
        generalize (foldF rs x).1 = D at *
        generalize (foldF rs x).2 = E at *
        obtain ⟨xk, xp, xm⟩ := x
        simp only at r0 r1 r2 HFi
        have HT := Lib.hid (tfold_walk rs rs.length a' c' wr.heap.size xk xp xm wr D E rfl (by unfold maxLen; omega) HFi.out srs (Nat.le_refl _))
        unfold FdPost at HT
        go_wp2_with fail
        refine HT.out.mono ?_
        rintro e w5 ⟨a5, c5, rfl, s5, g5, _, _⟩
        have b5 := hbw.trans (g5.mono hbw.size)
        have srs5 := (srs.below g5 (Nat.le_refl _)).grow g5.size
        have t0 : w5.cell? ⟨b1, o1 + k * 3, none⟩ = some (.int .i64 xk) := (g5.cell (p := ⟨b1, o1 + k * 3, none⟩) hb1).trans r0
        have t1 : w5.cell? ⟨b1, o1 + k * 3 + 1, none⟩ = some (.int .i64 xp) := (g5.cell (p := ⟨b1, o1 + k * 3 + 1, none⟩) hb1).trans r1
        have hb5 : b1 < w5.heap.size := Nat.lt_of_lt_of_le hb1 g5.size
        clear srs r0 r1 r2
        by_cases hE : E = 0
        · subst hE
          have HF := Lib.hid HFi.out
          clear HFi
          go_wp2_with fail
          obtain ⟨wo, rfl⟩ : ∃ wo : World, wo = wr := ⟨_, rfl⟩
          go_loopw [7] (fun I wz => ∃ (q : Nat), 1 ≤ q ∧ q ≤ 9 ∧ I = .int .i64 q ∧ Below w5.heap.size w5 wz) (fun I _ => 9 - (intOf I).toNat)
          case atStart => exact ⟨1, by omega, by omega, rfl, Below.refl _ _⟩
          case round =>
            obtain ⟨q, hq1, hq9, rfl, hbz⟩ := hrel
            obtain ⟨wp, rfl⟩ : ∃ wp : World, wp = wr := ⟨_, rfl⟩
            by_cases hq8 : q ≤ 8
            · obtain ⟨X, EX, hX⟩ := rowIs_ex rs (q : Int)
              obtain ⟨Y, EY, hY⟩ := rowIs_ex D (q : Int)
              obtain ⟨hr1, hr2, hr3, hr4⟩ := fd_row HF.out hX hY
              have H1 := Lib.hid (rrow_walk rs rs.length a' c' wp.heap.size (q : Int) wp X EX rfl (by omega) hX ((srs5.below hbz (Nat.le_refl _)).grow hbz.size) (Nat.le_refl _))
              have H2 := Lib.hid (fun w6 h6 => rrow_walk D D.length a5 c5 w6.heap.size (q : Int) w6 Y EY rfl (by omega) hY h6 (Nat.le_refl _))
              unfold RrPost at H1 H2
              have u0 : wp.cell? ⟨b1, o1 + k * 3, none⟩ = some (.int .i64 xk) := (hbz.cell (p := ⟨b1, o1 + k * 3, none⟩) hb5).trans t0
              have u1 : wp.cell? ⟨b1, o1 + k * 3 + 1, none⟩ = some (.int .i64 xp) := (hbz.cell (p := ⟨b1, o1 + k * 3 + 1, none⟩) hb5).trans t1
              have hbp : b1 < wp.heap.size := Nat.lt_of_lt_of_le hb5 hbz.size
              clear hX hY
              obtain ⟨Xp, Xe, Xs, Xm, Xl⟩ := X
              obtain ⟨Yp, Ye, Ys, Ym, Yl⟩ := Y
              simp only at hr2 hr3 hr4 H1 H2
              go_wp2_with fail
              refine H1.out.mono ?_
              rintro e w6 ⟨rfl, g6⟩
              have hal6 := balloc w6 (.cells #[.int .i64 Xp, .int .i64 Xe, .int .i64 Xs, .int .i64 Xm, .int .i64 Xl] 52)
              have hWh6 := Whole.new w6 52 #[.int .i64 Xp, .int .i64 Xe, .int .i64 Xs, .int .i64 Xm, .int .i64 Xl]
              have b6 := (hbz.trans (g6.mono hbz.size)).trans (hal6.mono (Nat.le_trans hbz.size g6.size))
              have z6 := hal6.size
              have s6 := Lib.hid ((s5.below b6 (Nat.le_refl _)).grow b6.size)
              go_wp2_with fail
              refine (H2.out _ s6.out).mono ?_
              rintro e w7 ⟨rfl, g7⟩
              have hWh7 := hWh6.keep g7
              have e0 := hWh7.cell 0
              have e1 := hWh7.cell 1
              have e2 := hWh7.cell 2
              have e3 := hWh7.cell 3
              have e4 := hWh7.cell 4
              simp only [List.getElem?_toArray, List.getElem?_cons_zero, List.getElem?_cons_succ] at e0 e1 e2 e3 e4
              have b7 := b6.trans (g7.mono b6.size)
              have z7 := g7.size
              have hz67 : w6.heap.size < w7.heap.size := by have : w6.heap.size < (w6.alloc (.cells #[.int .i64 Xp, .int .i64 Xe, .int .i64 Xs, .int .i64 Xm, .int .i64 Xl] 52)).heap.size := by simp
                                                            omega
              have v0 : w7.cell? ⟨b1, o1 + k * 3, none⟩ = some (.int .i64 xk) := (b7.cell (p := ⟨b1, o1 + k * 3, none⟩) hb5).trans t0
              have v1 : w7.cell? ⟨b1, o1 + k * 3 + 1, none⟩ = some (.int .i64 xp) := (b7.cell (p := ⟨b1, o1 + k * 3 + 1, none⟩) hb5).trans t1
              have hb7 : b1 < w7.heap.size := Nat.lt_of_lt_of_le hb5 b7.size
              have HB8 := Lib.hid (b7.alloc b7.size (.cells #[.int .i64 Yp, .int .i64 Ye, .int .i64 Ys, .int .i64 Ym, .int .i64 Yl] 52))
              clear hWh6 hWh7 u0 u1 hal6 b6 b7 g6 g7 z6 z7 hbz
              by_cases hqp : (q : Int) = xp
              · subst hqp
                obtain ⟨hr5, hr6⟩ := hr2 rfl
                have hw1 : IntKind.i64.wrap (Xe + 1) = Xe + 1 := IntWalk.i64_in _ (by omega)
                clear hr1 hr2
                by_cases hk1 : xk = 1 ∨ xk = 5
                · obtain rfl := hr5 hk1
                  clear hr5 hr6
                  rcases hk1 with rfl | rfl
                  all_goals
                    go_wp2_with fail
                    go_roundw
                    case rel => exact ⟨q + 1, by omega, by omega, by go_num, HB8.out⟩
                    case measure => simp [intOf]; omega
                · obtain rfl := hr6 hk1
                  have bk1 : (xk == 1) = false := beq_eq_false_iff_ne.2 (fun h => hk1 (.inl h))
                  have bk5 : (xk == 5) = false := beq_eq_false_iff_ne.2 (fun h => hk1 (.inr h))
                  clear hr5 hr6 hk1
                  go_wp2_with fail
                  go_roundw
                  case rel => exact ⟨q + 1, by omega, by omega, by go_num, HB8.out⟩
                  case measure => simp [intOf]; omega
              · have hXY := hr1 hqp
                injection hXY with x0 x1 x2 x3 x4
                subst x0 x1 x2 x3 x4
                have bqp : (((q : Int)) != xp) = true := by simp [hqp]
                have bqp2 : (((q : Int)) == xp) = false := by simp [hqp]
                clear hr1 hr2
                go_wp2_with fail
                go_roundw
                case rel => exact ⟨q + 1, by omega, by omega, by go_num, HB8.out⟩
                case measure => simp [intOf]; omega
            · have hb6 := b5.trans (hbz.mono b5.size)
              have s6 := Lib.hid ((s5.below hbz (Nat.le_refl _)).grow hbz.size)
              go_wp2_with fail
              go_roundw
              case rel => exact ⟨k + 1, D, a5, c5, by omega, by omega, by go_num, rfl, hDl, s6.out, hb6⟩
              case measure => simp [intOf]; omega
        · have hDn : D = [] := by
            rcases HFi.out with ⟨_, h, _⟩ | ⟨_, _, ⟨_, h, _⟩ | ⟨_, _, h⟩⟩ | ⟨_, _, _, ⟨_, h, _⟩ | ⟨_, _, ⟨_, h, _⟩ | ⟨_, _, h⟩⟩⟩ <;> first | exact h | exact absurd h hE
          subst hDn
          have hE2 : (E == 0) = false := by simp [hE]
          have hE3 : (E != 0) = true := by simp [hE]
          clear HFi
          go_wp2_with fail
          go_roundw
          case rel => exact ⟨k + 1, rs, a', c', by omega, by omega, by go_num, rfl, hrl, srs5, b5⟩
          case measure => simp [intOf]; omega
      · go_wp2_with fail
        refine (awake12_walk _).mono ?_
        rintro e w6 ⟨rfl, g6⟩
        go_wp2_with fail
        go_ret
        exact ⟨rfl, gtrans hbw g6⟩
    · go_wp2_with fail
      refine (awake12_walk _).mono ?_
      rintro e w6 ⟨rfl, g6⟩
      go_wp2_with fail
      go_ret
      exact ⟨rfl, gtrans hbw g6⟩
end Go.Proofs.Ytfjnmjibifefgaa
