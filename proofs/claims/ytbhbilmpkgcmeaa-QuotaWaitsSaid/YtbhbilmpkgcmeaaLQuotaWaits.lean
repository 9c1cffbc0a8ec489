/- The walk of the statement QuotaWaits of layer 36. -/
import Derived.Test.YtbhbilmpkgcmeaaQuLaw2
import Derived.Deep.RegionHeld3
namespace Go.Proofs.Ytbhbilmpkgcmeaa
open Go.RowKit Vm
set_option linter.unusedVariables false

set_option maxRecDepth 100000 in
set_option maxHeartbeats 4000000 in
theorem quotaWaits_law (t m : Int) (l : List Ak) (a : Option Addr) (c : Nat) (who n : Int) (w : World) (ht0 : (Lit.int .i64 t).wf = true) (hm0 : (Lit.int .i64 m).wf = true)
    (hl1 : Sl w w.heap.size a (akCells l)) (hi1 : ∀ r ∈ l, AkI r) (hc1 : (a = none → c = 0) ∧ l.length ≤ c ∧ c ≤ maxLen) (hwho : (Lit.int .i64 who).wf = true) (hn : (Lit.int .i64 n).wf = true) :
    Calls Try.prog 12 #[.agg #[.int .i64 t, .int .i64 m], .slice a l.length c, .int .i64 who, .int .i64 n] w fun e w' => e = .returned (.bool true) ∧ Below w.heap.size w w' := by
  have hal := balloc w (.cells #[.int .i64 t, .int .i64 m] 60)
  obtain ⟨ls, hls, hsl⟩ := asks_cut 30 hl1 hc1.2.1
  obtain ⟨N, hN⟩ : ∃ N, l.length = N := ⟨_, rfl⟩
  rw [hN] at hc1 hls ⊢
  obtain ⟨_, hc2, _⟩ := hc1
  have hc30 : 30 < N → (30 : Int) ≤ (c : Int) := fun h => by omega
  by_cases hq : ¬ MayQ t m
  · have HM := Lib.hid (fun w => rmay36_no t m w hq)
    clear hq hls hi1 ht0 hm0 hl1
    rcases (show 30 < N ∨ ¬ 30 < N by omega) with h3 | h3
    all_goals
      first | (have hc3 := hc30 h3) | skip
      have h4 : (30 : Int) < (N : Int) ∨ ¬ (30 : Int) < (N : Int) := by omega
      go_enter Try.func12, Try.ntmps12
      go_wp2_with fail
      refine (HM.out _).mono ?_
      rintro e w1 ⟨rfl, g1⟩
      go_wp2_with fail
      refine (awake36_walk _).mono ?_
      rintro e w2 ⟨rfl, g2⟩
      go_wp2_with fail
      go_ret
      exact ⟨rfl, gtrans (gtrans hal g1) g2⟩
  have hq := Classical.not_not.1 hq
  have HM := Lib.hid (fun w => rmay36_yes t m w hq)
  have HQ := Lib.hid hq
  obtain ⟨who', hw1, hw2, hw3⟩ := mask_of who 3 (by omega) (by omega)
  obtain ⟨n', hn1, hn2, hn3⟩ := mask_of n 1048575 (by omega) (by omega)
  have c0 : ∀ w1, Below (w.heap.size + 1) (w.alloc (.cells #[.int .i64 t, .int .i64 m] 60)) w1 → w1.cell? ⟨w.heap.size, 0, none⟩ = some (.int .i64 t) ∧ w1.cell? ⟨w.heap.size, 1, none⟩ = some (.int .i64 m) := fun w1 g => by
    refine ⟨?_, ?_⟩ <;> (rw [g.cell (by simp), World.cell?_alloc_at _ _ _ _ rfl]; rfl)
  have C0 := Lib.hid c0
  have hal2 : w.heap.size + 1 ≤ (w.alloc (.cells #[.int .i64 t, .int .i64 m] 60)).heap.size := by simp
  have hsl0 := (hsl.below hal (Nat.le_refl _)).grow hal.size
  obtain ⟨M, hM⟩ : ∃ M, M = ls.length := ⟨_, rfl⟩
  have hM30 : M ≤ 30 := by omega
  have hMN : (30 < N → M = 30) ∧ (¬ 30 < N → M = N) := by omega
  have HNe := Lib.hid hM
  clear hq hls hi1 ht0 hm0 hl1 c0 hsl hM
  rcases (show (30 < N ∧ M = 30) ∨ (¬ 30 < N ∧ M = N) by omega) with ⟨h3, rfl⟩ | ⟨h3, rfl⟩
  all_goals
    first | (have hc3 := hc30 h3) | skip
    clear hc30 hMN
    go_enter Try.func12, Try.ntmps12
    go_wp2_with fail
    refine (HM.out _).mono ?_
    rintro e w1 ⟨rfl, g1⟩
    have q1 := g1.mono hal2
    have s1 := (hsl0.below g1 (Nat.le_refl _)).grow g1.size
    have z1 : w.heap.size + 1 ≤ w1.heap.size := Nat.le_trans hal2 g1.size
    have b1 := gtrans hal g1
    clear hsl0 HM
    go_wp2_with fail
    go_loopw [9, 10, 11] (fun A T I wr => ∃ (k : Nat) (acs : List Ac) (a' : Option Addr) (c' : Nat) (nw : Int), k ≤ ls.length ∧ I = .int .i64 k ∧ T = .int .i64 nw ∧ A = .slice a' acs.length c' ∧ Sl wr wr.heap.size a' (acCells acs) ∧ Hid (Four t m acs nw) ∧ 0 ≤ nw ∧ nw ≤ 1023 * (k : Int) ∧ Below w1.heap.size w1 wr) (fun _ _ I _ => ls.length - (intOf I).toNat)
    case atStart => exact ⟨0, [], none, 0, 0, by omega, rfl, rfl, rfl, .inl rfl, Lib.hid (four_nil t m 0), by omega, by omega, Below.refl _ _⟩
    case round =>
      obtain ⟨k, acs, a', c', nw, hk, rfl, rfl, rfl, sac, HF, hnw0, hnw1, hbw⟩ := hrel
      have qr := q1.trans (hbw.mono z1)
      have zr : w.heap.size + 1 ≤ wr.heap.size := Nat.le_trans z1 hbw.size
      obtain ⟨d0, d1⟩ := C0.out _ qr
      have br := gtrans b1 hbw
      by_cases hlt : k < ls.length
      · obtain ⟨gb, go, rfl, hgb, hgc⟩ := ((s1.below hbw (Nat.le_refl _)).grow hbw.size).ak (by omega)
        obtain ⟨r0, r1, r2⟩ := hgc k hlt
        generalize ls.getD k ak0 = x at *
        obtain ⟨xw, xn, xt⟩ := x
        simp only at r0 r1 r2
        obtain ⟨y0, hy0, y0a, y0b⟩ := mask_of xw 3 (by omega) (by omega)
        obtain ⟨y1, hy1, y1a, y1b⟩ := mask_of xn 65535 (by omega) (by omega)
        obtain ⟨y2, hy2, y2a, y2b⟩ := mask_of xt 1023 (by omega) (by omega)
        rw [← HNe.out] at hlt hk
        obtain ⟨D, W, E, hT, _, hE, hF2, hDl⟩ := round4 (who := y0) (n := y1) HQ.out HF.out hnw0 y2a (by omega) ⟨y0a, y0b⟩ y1a
        have hwn : IntKind.i64.wrap (nw + y2) = nw + y2 := IntWalk.i64_in _ (by omega)
        have HT := Lib.hid (fun w5 h5 => qtake_walk t m acs acs.length a' c' w5.heap.size y0 y1 (nw + y2) w5 D W E rfl hT h5 (Nat.le_refl _))
        unfold QPost at HT
        have HTk := Lib.hid (fun w5 (h5 : Below wr.heap.size wr w5) => HT.out w5 ((sac.below h5 (Nat.le_refl _)).grow h5.size))
        have HF2 := Lib.hid hF2
        have hS0 : wr.drew.cell? ⟨w.heap.size, 0, none⟩ = some (.int .i64 t) ∧ wr.drew.cell? ⟨w.heap.size, 1, none⟩ = some (.int .i64 m) ∧ wr.drew.cell? ⟨gb, go + k * 3, none⟩ = some (.int .i64 xw) ∧ wr.drew.cell? ⟨gb, go + k * 3 + 1, none⟩ = some (.int .i64 xn) ∧ wr.drew.cell? ⟨gb, go + k * 3 + 2, none⟩ = some (.int .i64 xt) ∧ Below wr.heap.size wr wr.drew := ⟨d0, d1, r0, r1, r2, (Below.refl _ _).drew⟩
        clear hgc hT hF2 HT HF
        go_wp2_with fail
        go_region_held3 (fun w' => w'.cell? ⟨w.heap.size, 0, none⟩ = some (.int .i64 t) ∧ w'.cell? ⟨w.heap.size, 1, none⟩ = some (.int .i64 m) ∧ w'.cell? ⟨gb, go + k * 3, none⟩ = some (.int .i64 xw) ∧ w'.cell? ⟨gb, go + k * 3 + 1, none⟩ = some (.int .i64 xn) ∧ w'.cell? ⟨gb, go + k * 3 + 2, none⟩ = some (.int .i64 xt) ∧ Below wr.heap.size wr w')
          (with_reducible assumption)
          (first | (go_at_call 37; refine (HTk.out _ (held4 (by with_reducible assumption))).mono ?_; rintro e w5 ⟨a5, c5, rfl, s5, g5, _, _⟩; have y := held5 (by with_reducible assumption) g5))
        obtain ⟨_, _, _, _, _, y5⟩ := y
        have hb5 := hbw.trans (y5.mono hbw.size)
        have sac5 := (sac.below y5 (Nat.le_refl _)).grow y5.size
        rcases hE with ⟨rfl, hD, hW, hmn⟩ | ⟨rfl, hF5⟩ | ⟨rfl, hF5⟩
        · clear hD hW
          go_wp2_with fail
          go_roundw
          case rel => exact ⟨k + 1, acs, a', c', nw + y2, by rw [← HNe.out]; omega, by go_num, rfl, rfl, sac5, HF2, by omega, by omega, hb5⟩
          case measure => rw [← HNe.out]; simp [intOf]; omega
        all_goals
          have HF5 := Lib.hid hF5
          clear hF5
          go_wp2_with fail
          go_roundw
          case rel => exact ⟨k + 1, D, a5, c5, nw + y2, by rw [← HNe.out]; omega, by go_num, rfl, rfl, s5, HF5, by omega, by omega, hb5⟩
          case measure => rw [← HNe.out]; simp [intOf]; omega
      · have hk2 : k = ls.length := by omega
        rw [← HNe.out] at hk hlt hk2
        obtain ⟨D, W, E, h4, hT⟩ := tk4 (who := who') (n := n') HQ.out HF.out ⟨hnw0, by omega⟩ ⟨hw2, hw3⟩ hn2
        have HT := Lib.hid (fun w5 h5 => qtake_walk t m acs acs.length a' c' w5.heap.size who' n' nw w5 D W E rfl hT h5 (Nat.le_refl _))
        unfold QPost at HT
        have hlt2 : ¬ (k : Int) < _ := fun h => hlt (Int.ofNat_lt.1 h)
        clear hT hk2
        rcases h4 with ⟨hmn, rfl, rfl, rfl⟩ | ⟨hmn, hle, hDe, rfl, rfl⟩ | ⟨hmn, hgt, hDe, hWe, rfl, hx⟩
        · go_wp2_with fail
          refine (HT.out _ sac).mono ?_
          rintro e w5 ⟨a5, c5, rfl, s5, g5, _, _⟩
          have q5 := qr.trans (g5.mono zr)
          obtain ⟨d0, d1⟩ := C0.out _ q5
          have br := gtrans br g5
          go_wp2_with fail
          refine (awake36_walk _).mono ?_
          rintro e w6 ⟨rfl, g6⟩
          go_wp2_with fail
          go_ret
          exact ⟨rfl, gtrans br g6⟩
        · clear hDe hle
          go_wp2_with fail
          refine (HT.out _ sac).mono ?_
          rintro e w5 ⟨a5, c5, rfl, s5, g5, _, _⟩
          have br := gtrans br g5
          go_wp2_with fail
          refine (awake36_walk _).mono ?_
          rintro e w6 ⟨rfl, g6⟩
          go_wp2_with fail
          go_ret
          exact ⟨rfl, gtrans br g6⟩
        · obtain ⟨hW1, hW2, hT1, D2, hT2⟩ := wait_tells HQ.out HF.out ⟨hnw0, by omega⟩ ⟨hw2, hw3⟩ hn2 hmn hgt hWe hx
          rw [hDe] at HT
          clear hDe hWe hgt hx
          have HT1 := Lib.hid (fun w5 a' c' h5 => qtake_walk t m acs acs.length a' c' w5.heap.size who' n' (nw + W - 1) w5 acs 1 10 rfl hT1 h5 (Nat.le_refl _))
          have HT2 := Lib.hid (fun w5 a' c' h5 => qtake_walk t m acs acs.length a' c' w5.heap.size who' n' (nw + W) w5 D2 0 0 rfl hT2 h5 (Nat.le_refl _))
          unfold QPost at HT1 HT2
          clear hT1 hT2
          go_wp2_with fail
          refine (HT.out _ sac).mono ?_
          rintro e w5 ⟨a5, c5, rfl, s5, g5, _, _⟩
          have q5 := qr.trans (g5.mono zr)
          have z5 := Nat.le_trans zr g5.size
          clear d0 d1
          obtain ⟨d0, d1⟩ := C0.out _ q5
          have br := gtrans br g5
          go_wp2_with fail
          refine (HT1.out _ _ _ s5).mono ?_
          rintro e w6 ⟨a6, c6, rfl, s6, g6, _, _⟩
          have q6 := q5.trans (g6.mono z5)
          have s5 := (s5.below g6 (Nat.le_refl _)).grow g6.size
          clear d0 d1
          obtain ⟨d0, d1⟩ := C0.out _ q6
          have br := gtrans br g6
          go_wp2_with fail
          refine (HT2.out _ _ _ s5).mono ?_
          rintro e w7 ⟨a7, c7, rfl, s7, g7, _, _⟩
          have br := gtrans br g7
          go_wp2_with fail
          refine (awake36_walk _).mono ?_
          rintro e w8 ⟨rfl, g8⟩
          go_wp2_with fail
          go_ret
          exact ⟨rfl, gtrans br g8⟩
end Go.Proofs.Ytbhbilmpkgcmeaa
