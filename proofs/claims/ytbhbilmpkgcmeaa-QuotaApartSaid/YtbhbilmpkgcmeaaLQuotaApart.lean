/- The walk of the statement QuotaApart of layer 36. -/
import Derived.Test.YtbhbilmpkgcmeaaQuLaw3
namespace Go.Proofs.Ytbhbilmpkgcmeaa
open Go.RowKit Vm
set_option linter.unusedVariables false

set_option maxRecDepth 100000 in
set_option maxHeartbeats 4000000 in
theorem quotaApart_law (t m : Int) (l : List Ak) (a : Option Addr) (c : Nat) (who : Int) (w : World) (ht0 : (Lit.int .i64 t).wf = true) (hm0 : (Lit.int .i64 m).wf = true)
    (hl1 : Sl w w.heap.size a (akCells l)) (hi1 : ∀ r ∈ l, AkI r) (hc1 : (a = none → c = 0) ∧ l.length ≤ c ∧ c ≤ maxLen) (hwho : (Lit.int .i64 who).wf = true) :
    Calls Try.prog 13 #[.agg #[.int .i64 t, .int .i64 m], .slice a l.length c, .int .i64 who] w fun e w' => e = .returned (.bool true) ∧ Below w.heap.size w w' := by
  have hal := balloc w (.cells #[.int .i64 t, .int .i64 m] 60)
  obtain ⟨ls, hls, hsl⟩ := asks_cut 40 hl1 hc1.2.1
  obtain ⟨N, hN⟩ : ∃ N, l.length = N := ⟨_, rfl⟩
  rw [hN] at hc1 hls ⊢
  obtain ⟨_, hc2, _⟩ := hc1
  have hc40 : 40 < N → (40 : Int) ≤ (c : Int) := fun h => by omega
  obtain ⟨who', hw1, hw2, hw3⟩ := mask_of who 3 (by omega) (by omega)
  have c0 : ∀ w1, Below (w.heap.size + 1) (w.alloc (.cells #[.int .i64 t, .int .i64 m] 60)) w1 → w1.cell? ⟨w.heap.size, 0, none⟩ = some (.int .i64 t) ∧ w1.cell? ⟨w.heap.size, 1, none⟩ = some (.int .i64 m) := fun w1 g => by
    refine ⟨?_, ?_⟩ <;> (rw [g.cell (by simp), World.cell?_alloc_at _ _ _ _ rfl]; rfl)
  have C0 := Lib.hid c0
  have hal2 : w.heap.size + 1 ≤ (w.alloc (.cells #[.int .i64 t, .int .i64 m] 60)).heap.size := by simp
  have hsl0 := (hsl.below hal (Nat.le_refl _)).grow hal.size
  obtain ⟨M, hM⟩ : ∃ M, M = ls.length := ⟨_, rfl⟩
  have hM40 : M ≤ 40 := by omega
  have HNe := Lib.hid hM
  have HI0 := Lib.hid (show InvA t m who' [] [] 0 from by
    by_cases hm : MayQ t m
    · exact .inr ⟨hm, four_nil t m 0, four_nil t m 0, rfl⟩
    · exact .inl ⟨hm, rfl, rfl⟩)
  obtain ⟨w0, hw0⟩ : ∃ w0, w0 = w.alloc (.cells #[.int .i64 t, .int .i64 m] 60) := ⟨_, rfl⟩
  have HW0 := Lib.hid hw0
  rw [← hw0] at hal C0 hal2 hsl0
  rcases (show (40 < N ∧ M = 40) ∨ (¬ 40 < N ∧ M = N) by omega) with ⟨h3, rfl⟩ | ⟨h3, rfl⟩
  all_goals
    first | (have hc3 := hc40 h3; have hd1 : decide ((40 : Int) < (N : Int)) = true := decide_eq_true (by omega)) | (have hd1 : decide ((40 : Int) < (M : Int)) = false := decide_eq_false (by omega))
    clear hc40 hls hi1 ht0 hm0 hl1 c0 hsl hM hw0
    go_enter Try.func13, Try.ntmps13
    go_wp2_with fail
    rw [← HW0.out]
    go_loopw [7, 8, 9, 10] (fun A O T I wr => ∃ (k : Nat) (acs ocs : List Ac) (a1 a2 : Option Addr) (c1 c2 : Nat) (nw : Int), k ≤ ls.length ∧ I = .int .i64 k ∧ T = .int .i64 nw ∧ A = .slice a1 acs.length c1 ∧ O = .slice a2 ocs.length c2 ∧ Sl wr wr.heap.size a1 (acCells acs) ∧ Sl wr wr.heap.size a2 (acCells ocs) ∧ Hid (InvA t m who' acs ocs nw) ∧ 0 ≤ nw ∧ nw ≤ 1023 * (k : Int) ∧ Below w0.heap.size w0 wr) (fun _ _ _ I _ => ls.length - (intOf I).toNat)
    case atStart => exact ⟨0, [], [], none, none, 0, 0, 0, by omega, rfl, rfl, rfl, rfl, .inl rfl, .inl rfl, HI0, by omega, by omega, Below.refl _ _⟩
    case round =>
      obtain ⟨k, acs, ocs, a1, a2, c1, c2, nw, hk, rfl, rfl, rfl, rfl, sac, soc, HF, hnw0, hnw1, hbw⟩ := hrel
      have qr := hbw.mono hal2
      have zr : w.heap.size + 1 ≤ wr.heap.size := Nat.le_trans hal2 hbw.size
      obtain ⟨d0, d1⟩ := C0.out _ qr
      by_cases hlt : k < ls.length
      · obtain ⟨gb, go, rfl, hgb, hgc⟩ := ((hsl0.below hbw (Nat.le_refl _)).grow hbw.size).ak (by omega)
        obtain ⟨r0, r1, r2⟩ := hgc k hlt
        generalize ls.getD k ak0 = x at *
        obtain ⟨xw, xn, xt⟩ := x
        simp only at r0 r1 r2
        obtain ⟨y0, hy0, y0a, y0b⟩ := mask_of xw 3 (by omega) (by omega)
        obtain ⟨y1, hy1, y1a, y1b⟩ := mask_of xn 65535 (by omega) (by omega)
        obtain ⟨y2, hy2, y2a, y2b⟩ := mask_of xt 1023 (by omega) (by omega)
        rw [← HNe.out] at hlt hk
        obtain ⟨D, W, E, hT, hE, hl1, hl2, hI, hI2, hI3⟩ := round_apart (w := y0) (n := y1) HF.out hnw0 y2a (by omega) ⟨y0a, y0b⟩ y1a
        have hwn : IntKind.i64.wrap (nw + y2) = nw + y2 := IntWalk.i64_in _ (by omega)
        have HT := Lib.hid (fun w5 h5 => qtake_walk t m acs acs.length a1 c1 w5.heap.size y0 y1 (nw + y2) w5 D W E rfl hT h5 (Nat.le_refl _))
        unfold QPost at HT
        have HI := Lib.hid hI
        clear hgc hT hI HF
        by_cases he : y0 = who'
        · obtain ⟨D2, hT2, hI4⟩ := hI3 he
          have HT2 := Lib.hid (fun w5 h5 => qtake_walk t m ocs ocs.length a2 c2 w5.heap.size y0 y1 (nw + y2) w5 D2 W E rfl hT2 h5 (Nat.le_refl _))
          unfold QPost at HT2
          have HI4 := Lib.hid hI4
          clear hT2 hI4 hI2 hI3
          obtain rfl : who' = y0 := he.symm
          go_wp2_with fail
          go_quiet (fail)
          go_wp2_with fail
          refine (HT.out _ (by exact sac.drew (.of _ _))).mono ?_
          rintro e w5 ⟨a5, c5, rfl, s5, g5, _, _⟩
          have g5 : Below wr.heap.size wr w5 := gtrans (below_drewN _ _ _) g5
          have sac5 := (sac.below g5 (Nat.le_refl _)).grow g5.size
          have soc5 := (soc.below g5 (Nat.le_refl _)).grow g5.size
          have b5 := hbw.trans (g5.mono hbw.size)
          have q5 := qr.trans (g5.mono zr)
          obtain ⟨d0, d1⟩ := C0.out _ q5
          rcases hE with rfl | rfl | hE
          · skip
            go_wp2_with fail
            refine (HT2.out _ soc5).mono ?_
            rintro e w6 ⟨a6, c6, rfl, s6, g6, _, _⟩
            have sac6 := (sac5.below g6 (Nat.le_refl _)).grow g6.size
            have soc6 := (soc5.below g6 (Nat.le_refl _)).grow g6.size
            have s56 := (s5.below g6 (Nat.le_refl _)).grow g6.size
            have b6 := b5.trans (g6.mono b5.size)
            go_wp2_with fail
            go_roundw
            case rel => exact ⟨k + 1, acs, ocs, a1, a2, c1, c2, nw + y2, by rw [← HNe.out]; omega, by go_num, rfl, rfl, rfl, sac6, soc6, HI, by omega, by omega, b6⟩
            case measure => rw [← HNe.out]; simp [intOf]; omega
          · skip
            go_wp2_with fail
            refine (HT2.out _ soc5).mono ?_
            rintro e w6 ⟨a6, c6, rfl, s6, g6, _, _⟩
            have sac6 := (sac5.below g6 (Nat.le_refl _)).grow g6.size
            have soc6 := (soc5.below g6 (Nat.le_refl _)).grow g6.size
            have s56 := (s5.below g6 (Nat.le_refl _)).grow g6.size
            have b6 := b5.trans (g6.mono b5.size)
            go_wp2_with fail
            go_roundw
            case rel => exact ⟨k + 1, acs, ocs, a1, a2, c1, c2, nw + y2, by rw [← HNe.out]; omega, by go_num, rfl, rfl, rfl, sac6, soc6, HI, by omega, by omega, b6⟩
            case measure => rw [← HNe.out]; simp [intOf]; omega
          · have HI5 := Lib.hid (HI4.out hE)
            rcases hE with rfl | rfl
            all_goals
              go_wp2_with fail
              refine (HT2.out _ soc5).mono ?_
              rintro e w6 ⟨a6, c6, rfl, s6, g6, _, _⟩
              have sac6 := (sac5.below g6 (Nat.le_refl _)).grow g6.size
              have soc6 := (soc5.below g6 (Nat.le_refl _)).grow g6.size
              have s56 := (s5.below g6 (Nat.le_refl _)).grow g6.size
              have b6 := b5.trans (g6.mono b5.size)
              go_wp2_with fail
              go_roundw
              case rel => exact ⟨k + 1, D, D2, a5, a6, c5, c6, nw + y2, by rw [← HNe.out]; omega, by go_num, rfl, rfl, rfl, s56, s6, HI5, by omega, by omega, b6⟩
              case measure => rw [← HNe.out]; simp [intOf]; omega
        · have HI4 := Lib.hid (hI2 he)
          clear hI2 hI3
          go_wp2_with fail
          go_quiet (fail)
          go_wp2_with fail
          refine (HT.out _ (by exact sac.drew (.of _ _))).mono ?_
          rintro e w5 ⟨a5, c5, rfl, s5, g5, _, _⟩
          have g5 : Below wr.heap.size wr w5 := gtrans (below_drewN _ _ _) g5
          have sac5 := (sac.below g5 (Nat.le_refl _)).grow g5.size
          have soc5 := (soc.below g5 (Nat.le_refl _)).grow g5.size
          have b5 := hbw.trans (g5.mono hbw.size)
          rcases hE with rfl | rfl | hE
          · skip
            go_wp2_with fail
            go_roundw
            case rel => exact ⟨k + 1, acs, ocs, a1, a2, c1, c2, nw + y2, by rw [← HNe.out]; omega, by go_num, rfl, rfl, rfl, sac5, soc5, HI, by omega, by omega, b5⟩
            case measure => rw [← HNe.out]; simp [intOf]; omega
          · skip
            go_wp2_with fail
            go_roundw
            case rel => exact ⟨k + 1, acs, ocs, a1, a2, c1, c2, nw + y2, by rw [← HNe.out]; omega, by go_num, rfl, rfl, rfl, sac5, soc5, HI, by omega, by omega, b5⟩
            case measure => rw [← HNe.out]; simp [intOf]; omega
          · have HI5 := Lib.hid (HI4.out hE)
            rcases hE with rfl | rfl
            all_goals
              go_wp2_with fail
              go_roundw
              case rel => exact ⟨k + 1, D, ocs, a5, a2, c5, c2, nw + y2, by rw [← HNe.out]; omega, by go_num, rfl, rfl, rfl, s5, soc5, HI5, by omega, by omega, b5⟩
              case measure => rw [← HNe.out]; simp [intOf]; omega
      · rw [← HNe.out] at hk hlt
        have hlt2 : ¬ (k : Int) < _ := fun h => hlt (Int.ofNat_lt.1 h)
        have br := gtrans hal hbw
        go_wp2_with fail
        refine (awake36_walk _).mono ?_
        rintro e w6 ⟨rfl, g6⟩
        go_wp2_with fail
        go_ret
        exact ⟨rfl, gtrans br g6⟩
end Go.Proofs.Ytbhbilmpkgcmeaa
