/- The walk of the statement TxnParts of layer 12. -/
import Derived.Test.YtfjnmjibifefgaaTxEach
import Derived.Test.YtfjnmjibifefgaaTxInv
import Derived.Test.YtfjnmjibifefgaaTxIdx
import Derived.Test.YtfjnmjibifefgaaNtOpen
import Derived.Test.YtfjnmjibifefgaaSame
namespace Go.Proofs.Ytfjnmjibifefgaa
open Go.RowKit Vm
set_option linter.unusedVariables false

def mskF (l : List Tr) (pid : Int) : Int := match getR trKey l pid with | some x => x.m | none => 0
theorem msk_row {l : List Tr} {pid E : Int} {X : Tr} (h : RowIs l pid X E) : X.m = mskF l pid := by
  unfold mskF
  rcases h with ⟨h, _⟩ | ⟨h, rfl, _⟩ <;> rw [h]
  rfl
theorem fd_mask {l D : List Tr} {k p m pid : Int} (hF : FdIs l k p m D 0) :
    (pid ≠ p → mskF D pid = mskF l pid) ∧ (pid = p → (k = 2 → mskF D pid = bits .or .i64 (mskF l pid) m) ∧ ((k = 1 ∨ k = 5) → mskF D pid = 0) ∧ ((k = 3 ∨ k = 4) → mskF D pid = mskF l pid) ∧ 1 ≤ k ∧ k ≤ 5) := by
  have hR : RightT l := by
    rcases hF with ⟨_, _, h⟩ | ⟨hg, _⟩ | ⟨hg, _⟩
    · omega
    · exact hg.2
    · exact hg.2
  have hs := ascR_srt trKey tr0 (rightT_asc hR)
  refine ⟨?_, ?_⟩
  · intro hne
    have key : ∀ y : Tr, y.p = p → D = putR trKey l y → mskF D pid = mskF l pid := fun y hy hD => by
      unfold mskF
      rw [hD, getR_put trKey l y pid hs, if_neg (show ¬ trKey y = pid from fun h => hne (by rw [← hy]; exact h.symm))]
    rcases hF with ⟨_, _, h⟩ | ⟨_, _, ⟨_, _, h⟩ | ⟨_, hD, _⟩⟩ | ⟨_, x, hx, ⟨_, _, h⟩ | ⟨y, hy, ⟨_, _, h⟩ | ⟨_, hD, _⟩⟩⟩
    · omega
    · omega
    · exact key _ rfl hD
    · omega
    · omega
    · exact key y ((turnT_key hy).trans (getR_some trKey hx).2) hD
  · intro he
    subst he
    rcases hF with ⟨_, _, h⟩ | ⟨hg0, hn, ⟨_, _, h⟩ | ⟨hk, hD, _⟩⟩ | ⟨hgm, x, hx, ⟨_, _, h⟩ | ⟨y, hy, ⟨_, _, h⟩ | ⟨_, hD, _⟩⟩⟩
    · omega
    · omega
    · have hg : getR trKey D pid = some ⟨pid, 1, 1, 0, 0⟩ := by rw [hD, getR_put trKey l _ pid hs, if_pos (show trKey ⟨pid, 1, 1, 0, 0⟩ = pid from rfl)]
      have h1 : mskF D pid = 0 := by unfold mskF; rw [hg]
      exact ⟨fun h => by omega, fun _ => h1, fun h => by omega, by omega, by omega⟩
    · omega
    · omega
    · have hyp : trKey y = pid := (turnT_key hy).trans (getR_some trKey hx).2
      have hg : getR trKey D pid = some y := by rw [hD, getR_put trKey l _ pid hs, if_pos hyp]
      have h1 : mskF D pid = y.m := by unfold mskF; rw [hg]
      have h2 : mskF l pid = x.m := by unfold mskF; rw [hx]
      rw [h1, h2]
      have hk15 := hgm.1.1
      unfold turnT at hy
      refine ⟨fun h => ?_, fun h => ?_, fun h => ?_, hk15⟩
      all_goals
        repeat' split at hy
        all_goals first | (exfalso; omega) | (injection hy with hy; subst hy; rfl) | cases hy
theorem parts_math {R : List Tr} {pid E : Int} {X : Tr} (hI : InvT 100 R) (hX : RowIs R pid X E) :
    (0 ≤ X.m ∧ X.m < 8192) ∧ ((E = 0 ∧ (X.m = 0 ↔ X.s = 1)) ∨ (E = 3 ∧ X.m = 0)) := by
  rcases hX with ⟨hg, rfl⟩ | ⟨_, rfl, rfl⟩
  · obtain ⟨hm, _⟩ := getR_some trKey hg
    have hi := hI.2 X hm
    exact ⟨hi.2.2.2.1, .inl ⟨rfl, hi.2.2.2.2⟩⟩
  · simp [tr0]

set_option maxRecDepth 100000 in
set_option maxHeartbeats 8000000 in
theorem txnParts_law (l : List Nt) (a : Option Addr) (c : Nat) (pid : Int) (w : World) (hl1 : Sl w w.heap.size a (ntCells l)) (hi1 : ∀ r ∈ l, NtI r) (hc1 : (a = none → c = 0) ∧ l.length ≤ c ∧ c ≤ maxLen) (hpw : (Lit.int .i64 pid).wf = true) :
    Calls Try.prog 12 #[.slice a l.length c, .int .i64 pid] w fun e w' => e = .returned (.bool true) ∧ Below w.heap.size w w' := by
  have HW := Lib.hid (behind_walk l l.length a c w.heap.size w rfl hl1 (Nat.le_refl _))
  unfold RwPost at HW
  obtain ⟨R, hR⟩ : ∃ R, R = behF (l.take 100) := ⟨_, rfl⟩
  have HI := Lib.hid (behF_inv l)
  rw [← hR] at HW HI
  have hRl := behF_len (l.take 100)
  rw [← hR] at hRl
  have HR := Lib.hid hR
  obtain ⟨N, hN⟩ : ∃ N, l.length = N := ⟨_, rfl⟩
  rw [hN] at HW ⊢
  have HNe := Lib.hid hN
  obtain ⟨X, E, hX⟩ := rowIs_ex R pid
  have HPM := Lib.hid (parts_math HI.out hX)
  have HXM := Lib.hid (msk_row hX)
  clear hi1 hc1 hR hN hpw
  go_enter Try.func12, Try.ntmps12
  go_wp2_with fail
  refine HW.out.mono ?_
  rintro e w1 ⟨a1, c1, rfl, s1, g1, _, _⟩
  have h := hl1.below g1 (Nat.le_refl _)
  have hB : w.heap.size ≤ w1.heap.size := g1.size
  clear hl1 HW
  go_wp2_with fail
  go_loopw [6, 7, 8] (fun M R I wr => ∃ (k : Nat) (rs : List Tr) (a' : Option Addr) (c' : Nat) (V : Int), k ≤ N ∧ k ≤ 100 ∧ I = .int .i64 k ∧ M = .int .i64 V ∧ Hid (V = mskF rs pid) ∧ R = .slice a' rs.length c' ∧ Hid (rs = behF (l.take k)) ∧ Sl wr wr.heap.size a' (trCells rs) ∧ Hid ((a' = none → c' = 0) ∧ rs.length ≤ c') ∧ Below w1.heap.size w1 wr) (fun _ _ I _ => 100 - (intOf I).toNat)
  case atStart => exact ⟨0, [], none, 0, 0, by omega, by omega, rfl, rfl, Lib.hid rfl, rfl, Lib.hid rfl, .inl rfl, Lib.hid ⟨fun _ => rfl, Nat.le_refl _⟩, Below.refl _ _⟩
  case round =>
    obtain ⟨k, rs, a', c', V, hk, hk100, rfl, rfl, HV, rfl, HRS, srs, HAC, hbw⟩ := hrel
    have hrl : rs.length ≤ 9 := by rw [HRS.out]; exact behF_len _
    by_cases hlt : k < N
    · by_cases h100 : k < 100
      · have hkl : k < l.length := by rw [HNe.out]; exact hlt
        obtain ⟨b1, o1, rfl, hb1, hc⟩ := (h.below hbw hB).nt (by omega)
        obtain ⟨r0, r1, r2⟩ := hc k hkl
        have hz1 : b1 < wr.heap.size := by have := hbw.size; omega
        have hbs := Lib.hid (behF_snoc (l.take k) (l.getD k nt0))
        have htk := Lib.hid (take_get l nt0 k hkl)
        have HFi := Lib.hid (foldF_is rs (l.getD k nt0))
        have hDl := foldF_len rs (l.getD k nt0)
        have HST := Lib.hid (show stepF rs (l.getD k nt0) = if (foldF rs (l.getD k nt0)).2 = 0 then (foldF rs (l.getD k nt0)).1 else rs from rfl)
        rw [← HRS.out] at hbs
        clear hc
        generalize l.getD k nt0 = x at *
        generalize (foldF rs x).1 = D at *
        generalize (foldF rs x).2 = E at *
        obtain ⟨xk, xp, xm⟩ := x
        simp only at r0 r1 r2 HFi
        have HT := Lib.hid (tfold_walk rs rs.length a' c' wr.heap.size xk xp xm wr D E rfl (by unfold maxLen; omega) HFi.out srs (Nat.le_refl _))
        unfold FdPost at HT
        go_wp2_with fail
        refine HT.out.mono ?_
        rintro e w5 ⟨a5, c5, rfl, s5, g5, h5⟩
        have H5 := Lib.hid h5
        have b5 := hbw.trans (g5.mono hbw.size)
        have srs5 := (srs.below g5 (Nat.le_refl _)).grow g5.size
        have t0 : w5.cell? ⟨b1, o1 + k * 3, none⟩ = some (.int .i64 xk) := (g5.cell (p := ⟨b1, o1 + k * 3, none⟩) hz1).trans r0
        have t1 : w5.cell? ⟨b1, o1 + k * 3 + 1, none⟩ = some (.int .i64 xp) := (g5.cell (p := ⟨b1, o1 + k * 3 + 1, none⟩) hz1).trans r1
        have t2 : w5.cell? ⟨b1, o1 + k * 3 + 2, none⟩ = some (.int .i64 xm) := (g5.cell (p := ⟨b1, o1 + k * 3 + 2, none⟩) hz1).trans r2
        have hz5 : b1 < w5.heap.size := Nat.lt_of_lt_of_le hz1 g5.size
        clear srs h5 r0 r1 r2
        by_cases hE : E = 0
        · subst hE
          have HB := Lib.hid (show D = behF (l.take (k + 1)) by rw [htk.out, hbs.out, HST.out, if_pos rfl])
          have HFM := Lib.hid (fd_mask (pid := pid) HFi.out)
          clear HST HFi
          by_cases hp : xp = pid
          · subst hp
            obtain ⟨f1, f2, f3, f4, f5⟩ := HFM.out.2 rfl
            by_cases hk2 : xk = 2
            · subst hk2
              have HV2 := Lib.hid (show bits .or .i64 V xm = mskF D xp by rw [HV.out, f1 rfl])
              clear f1 f2 f3 HFM
              go_wp2_with fail
              go_roundw
              case rel => exact ⟨k + 1, D, a5, c5, _, by omega, by omega, by go_num, rfl, HV2, rfl, HB, s5, H5, b5⟩
              case measure => simp [intOf]; omega
            · have bk2 : (xk == 2) = false := beq_eq_false_iff_ne.2 hk2
              by_cases hk1 : xk = 1 ∨ xk = 5
              · have HV2 := Lib.hid (show 0 = mskF D xp from (f2 hk1).symm)
                clear f1 f2 f3 HFM hk2
                rcases hk1 with rfl | rfl
                all_goals
                  go_wp2_with fail
                  go_roundw
                  case rel => exact ⟨k + 1, D, a5, c5, 0, by omega, by omega, by go_num, rfl, HV2, rfl, HB, s5, H5, b5⟩
                  case measure => simp [intOf]; omega
              · have HV2 := Lib.hid (show V = mskF D xp by rw [HV.out]; exact (f3 (by omega)).symm)
                have bk1 : (xk == 1) = false := beq_eq_false_iff_ne.2 (fun h => hk1 (.inl h))
                have bk5 : (xk == 5) = false := beq_eq_false_iff_ne.2 (fun h => hk1 (.inr h))
                clear f1 f2 f3 HFM hk2 hk1
                go_wp2_with fail
                go_roundw
                case rel => exact ⟨k + 1, D, a5, c5, V, by omega, by omega, by go_num, rfl, HV2, rfl, HB, s5, H5, b5⟩
                case measure => simp [intOf]; omega
          · have HV2 := Lib.hid (show V = mskF D pid by rw [HV.out]; exact (HFM.out.1 (fun h => hp h.symm)).symm)
            have bp : (xp != pid) = true := by simp [hp]
            clear HFM
            go_wp2_with fail
            go_roundw
            case rel => exact ⟨k + 1, D, a5, c5, V, by omega, by omega, by go_num, rfl, HV2, rfl, HB, s5, H5, b5⟩
            case measure => simp [intOf]; omega
        · have HB := Lib.hid (show rs = behF (l.take (k + 1)) by rw [htk.out, hbs.out, HST.out, if_neg hE])
          have hE2 : (E != 0) = true := by simp [hE]
          clear HST HFi
          go_wp2_with fail
          go_roundw
          case rel => exact ⟨k + 1, rs, a', c', V, by omega, by omega, by go_num, rfl, HV, rfl, HB, srs5, HAC, b5⟩
          case measure => simp [intOf]; omega
      · have HR2 := Lib.hid (show rs = R by rw [HR.out, HRS.out]; congr 2; omega)
        obtain rfl : V = X.m := by rw [HV.out, HXM.out, HR2.out]
        have sz := Lib.hid ((s1.below hbw (Nat.le_refl _)).grow hbw.size)
        have H1 := Lib.hid (trow_walk R R.length a1 c1 wr.heap.size pid wr X E rfl (by omega) hX sz.out (Nat.le_refl _))
        unfold RrPost at H1
        obtain ⟨Xp, Xe, Xs, Xm, Xl⟩ := X
        simp only at H1 HPM
        obtain ⟨hm1, hm2⟩ := HPM.out
        have H2 := Lib.hid (fun w6 => each_walk Xm w6 (by unfold I64; omega))
        have H3 := Lib.hid (fun w6 => reach_walk Xm w6 (by unfold I64; omega))
        unfold EaPost at H2 H3
        have hel := eachF_len Xm 13
        generalize eachF Xm 13 = D at *
        have hb1 : (E = 0 ∧ (Xm == 0) = true ∧ (Xs == 1) = true) ∨ (E = 0 ∧ (Xm == 0) = false ∧ (Xs == 1) = false) ∨ (E = 3 ∧ (Xm == 0) = true ∧ True) := by
          rcases hm2 with ⟨h1, h2⟩ | ⟨h1, h2⟩
          · by_cases h3 : Xm = 0
            · exact .inl ⟨h1, by simp [h3], by simp [h2.1 h3]⟩
            · exact .inr (.inl ⟨h1, by simp [h3], by simp [show ¬ Xs = 1 from fun h => h3 (h2.2 h)]⟩)
          · exact .inr (.inr ⟨h1, by simp [h2], trivial⟩)
        have g01 := Lib.hid (gtrans g1 hbw)
        clear HV hX srs HAC HRS HPM sz hm2
        rcases hb1 with ⟨rfl, bm, bs⟩ | ⟨rfl, bm, bs⟩ | ⟨rfl, bm, bs⟩
        all_goals
          go_wp2_with fail
          refine H1.out.mono ?_
          rintro e w2 ⟨rfl, g2⟩
          have hal := balloc w2 (.cells #[.int .i64 Xp, .int .i64 Xe, .int .i64 Xs, .int .i64 Xm, .int .i64 Xl] 52)
          go_wp2_with fail
          refine (H2.out _).mono ?_
          rintro e w3 ⟨a3, c3, rfl, s3, g3⟩
          go_wp2_with fail
          refine (H3.out _).mono ?_
          rintro e w4 ⟨a4, c4, rfl, s4, g4⟩
          go_wp2_with fail
          refine (same_yes _ _ _ _ _ _ _ D _ rfl (by omega) (s3.below g4 (Nat.le_refl _)) s4).mono ?_
          rintro e w5 ⟨rfl, g5⟩
          go_wp2_with fail
          refine (awake12_walk _).mono ?_
          rintro e w6 ⟨rfl, g6⟩
          go_wp2_with fail
          go_ret
          exact ⟨rfl, gtrans (gdrew (gtrans (gtrans (gtrans (gtrans g01.out g2) hal) g3) g4) g5) g6⟩
    · have HR2 := Lib.hid (show rs = R by rw [HR.out, HRS.out, List.take_of_length_le (by rw [HNe.out]; omega), List.take_of_length_le (by rw [HNe.out]; omega)])
      obtain rfl : V = X.m := by rw [HV.out, HXM.out, HR2.out]
      have sz := Lib.hid ((s1.below hbw (Nat.le_refl _)).grow hbw.size)
      have H1 := Lib.hid (trow_walk R R.length a1 c1 wr.heap.size pid wr X E rfl (by omega) hX sz.out (Nat.le_refl _))
      unfold RrPost at H1
      obtain ⟨Xp, Xe, Xs, Xm, Xl⟩ := X
      simp only at H1 HPM
      obtain ⟨hm1, hm2⟩ := HPM.out
      have H2 := Lib.hid (fun w6 => each_walk Xm w6 (by unfold I64; omega))
      have H3 := Lib.hid (fun w6 => reach_walk Xm w6 (by unfold I64; omega))
      unfold EaPost at H2 H3
      have hel := eachF_len Xm 13
      generalize eachF Xm 13 = D at *
      have hb1 : (E = 0 ∧ (Xm == 0) = true ∧ (Xs == 1) = true) ∨ (E = 0 ∧ (Xm == 0) = false ∧ (Xs == 1) = false) ∨ (E = 3 ∧ (Xm == 0) = true ∧ True) := by
        rcases hm2 with ⟨h1, h2⟩ | ⟨h1, h2⟩
        · by_cases h3 : Xm = 0
          · exact .inl ⟨h1, by simp [h3], by simp [h2.1 h3]⟩
          · exact .inr (.inl ⟨h1, by simp [h3], by simp [show ¬ Xs = 1 from fun h => h3 (h2.2 h)]⟩)
        · exact .inr (.inr ⟨h1, by simp [h2], trivial⟩)
      have g01 := Lib.hid (gtrans g1 hbw)
      clear HV hX srs HAC HRS HPM sz hm2
      rcases hb1 with ⟨rfl, bm, bs⟩ | ⟨rfl, bm, bs⟩ | ⟨rfl, bm, bs⟩
      all_goals
        go_wp2_with fail
        refine H1.out.mono ?_
        rintro e w2 ⟨rfl, g2⟩
        have hal := balloc w2 (.cells #[.int .i64 Xp, .int .i64 Xe, .int .i64 Xs, .int .i64 Xm, .int .i64 Xl] 52)
        go_wp2_with fail
        refine (H2.out _).mono ?_
        rintro e w3 ⟨a3, c3, rfl, s3, g3⟩
        go_wp2_with fail
        refine (H3.out _).mono ?_
        rintro e w4 ⟨a4, c4, rfl, s4, g4⟩
        go_wp2_with fail
        refine (same_yes _ _ _ _ _ _ _ D _ rfl (by omega) (s3.below g4 (Nat.le_refl _)) s4).mono ?_
        rintro e w5 ⟨rfl, g5⟩
        go_wp2_with fail
        refine (awake12_walk _).mono ?_
        rintro e w6 ⟨rfl, g6⟩
        go_wp2_with fail
        go_ret
        exact ⟨rfl, gtrans (gdrew (gtrans (gtrans (gtrans (gtrans g01.out g2) hal) g3) g4) g5) g6⟩
end Go.Proofs.Ytfjnmjibifefgaa
