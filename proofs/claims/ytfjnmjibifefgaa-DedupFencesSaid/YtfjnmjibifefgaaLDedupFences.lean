/- The walk of the statement DedupFences of layer 7 (written by gen/fences07.py). -/
import Derived.Test.YtfjnmjibifefgaaDdLet
import Derived.Test.YtfjnmjibifefgaaRefBatMay
import Derived.Test.YtfjnmjibifefgaaSt3
namespace Go.Proofs.Ytfjnmjibifefgaa
open Go.RowKit Vm Bm
set_option linter.unusedVariables false
set_option linter.unusedSimpArgs false

theorem tmod_b (x k : Int) (hk : 0 < k) : -k < x.tmod k ∧ x.tmod k < k := by
  by_cases h : 0 ≤ x
  · exact ⟨by have := Int.tmod_nonneg k h; omega, Int.tmod_lt_of_pos x hk⟩
  · have h1 := Int.tmod_lt_of_pos (-x) hk
    have h2 := Int.tmod_nonneg k (show 0 ≤ -x by omega)
    rw [Int.neg_tmod] at h1 h2
    omega
theorem ring_z (x k : Int) (hk : 0 < k) (hk2 : k ≤ 1000) : 1 ≤ wrap64 (1 + (wrap64 (x.tmod k + k)).tmod k) ∧ wrap64 (1 + (wrap64 (x.tmod k + k)).tmod k) ≤ k := by
  obtain ⟨h1, h2⟩ := tmod_b x k hk
  rw [IntWalk.wrap64_in (x.tmod k + k) (by omega)]
  have h3 := Int.tmod_nonneg k (show 0 ≤ x.tmod k + k by omega)
  have h4 := Int.tmod_lt_of_pos (x.tmod k + k) hk
  rw [IntWalk.wrap64_in (1 + (x.tmod k + k).tmod k) (by omega)]
  omega
theorem rowP_fun {l : List Pr} {p : Int} {r r' : Pr} {E E' : Bool} (h : RowP l p r E) (h' : RowP l p r' E') : r = r' ∧ E = E' := by
  rcases h with ⟨h1, h2⟩ | ⟨h1, h2, h3⟩ <;> rcases h' with ⟨h4, h5⟩ | ⟨h4, h5, h6⟩
  · rw [h1] at h4; injection h4 with h4; exact ⟨h4, h2.trans h5.symm⟩
  · rw [h1] at h4; cases h4
  · rw [h1] at h4; cases h4
  · exact ⟨h2.trans h5.symm, h3.trans h6.symm⟩
def markB (K z E : Int) : Bat := ⟨K, z, E, 0, []⟩
theorem fence_row {R D : List Pr} {K z E : Int} {r0 r1 : Pr} {E0 E1 : Bool} (hz : 1 ≤ z) (hE : 1 ≤ E) (hD : NtIs (markB K z E) ⟨z, E, 0, 0, 99⟩ true R D) (h0 : RowP R z r0 E0) (h1 : RowP D z r1 E1) :
    E1 = true ∧ ((r0.e < E ∧ r1 = ⟨z, E, 0, 0, 99⟩) ∨ (¬ r0.e < E ∧ r1 = r0)) := by
  rcases hD with ⟨h, _⟩ | ⟨_, h2, h3⟩ | ⟨_, k, hk, h2, h3, ⟨_, h4, rfl⟩ | ⟨h4, rfl⟩⟩
  · have : z = 0 := h; omega
  · have hg : getR prKey D z = some ⟨z, E, 0, 0, 99⟩ := by
      rcases h3 with ⟨k, hk, _, _, rfl⟩ | ⟨_, rfl⟩
      · rw [getR_ins h2, if_pos rfl]
      · rw [show R ++ [(⟨z, E, 0, 0, 99⟩ : Pr)] = ins_pr R R.length ⟨z, E, 0, 0, 99⟩ from by simp [ins_pr], getR_ins h2, if_pos rfl]
    obtain ⟨rfl, rfl⟩ := rowP_fun h1 (.inl ⟨hg, rfl⟩)
    obtain ⟨rfl, _⟩ := rowP_fun h0 (.inr ⟨getR_miss prKey pr0 h2, rfl, rfl⟩)
    exact ⟨rfl, .inl ⟨show (0 : Int) < E by omega, rfl⟩⟩
  · have hg := getR_hit prKey pr0 h2 hk h3
    obtain ⟨rfl, rfl⟩ := rowP_fun h0 (.inl ⟨hg, rfl⟩)
    obtain ⟨rfl, rfl⟩ := rowP_fun h1 (.inl ⟨hg, rfl⟩)
    exact ⟨rfl, .inr ⟨h4, rfl⟩⟩
  · have hg := getR_hit prKey pr0 h2 hk h3
    obtain ⟨rfl, rfl⟩ := rowP_fun h0 (.inl ⟨hg, rfl⟩)
    have hs : getR prKey (R.set k ⟨z, E, 0, 0, 99⟩) z = some ⟨z, E, 0, 0, 99⟩ := by rw [getR_setp hk h2 h3, if_pos rfl]
    obtain ⟨rfl, rfl⟩ := rowP_fun h1 (.inl ⟨hs, rfl⟩)
    refine ⟨rfl, .inl ⟨?_, rfl⟩⟩
    rcases h4 with h4 | h4
    · cases h4
    · exact h4
theorem letInv_e {I : List Bx} {A : List Int} {P : List Pr} {next pid : Int} {r : Pr} {EE : Bool} (h : LetInv I A P next) (h0 : pid ≠ 0) (hr : RowP P pid r EE) : 0 ≤ r.e ∧ r.e ≤ 1099511627776 := by
  obtain ⟨_, _, _, _, ⟨rfl, _⟩ | ⟨j, hj, _, _, rfl, _⟩⟩ := letInv_row h h0 hr
  · simp
  · have hm := (h.may _ (getD_mem I bx0 j hj)).1.1
    unfold HeadB at hm
    show 0 ≤ (I.getD j bx0).b.epoch ∧ (I.getD j bx0).b.epoch ≤ 1099511627776
    omega
/-- A batch that may be, of another producer, epoch, number. -/
theorem may_turn {b : Bat} {z e s : Int} (h : MayB b) (hk : ¬ 2 < b.kind) (hz : 1 ≤ z ∧ z ≤ 8) (he : 1 ≤ e ∧ e ≤ 1099511627776) (hs : 0 ≤ s ∧ s ≤ 1099511627776) : MayB ⟨b.kind, z, e, s, b.l⟩ := by
  obtain ⟨m1, m2, m3⟩ := h
  unfold HeadB at m1
  unfold KindB Nobody Somebody at m2
  refine ⟨?_, ?_, m3⟩
  · unfold HeadB; simp only; omega
  · unfold KindB Nobody Somebody; simp only; omega
set_option maxRecDepth 100000 in
set_option maxHeartbeats 16000000 in
theorem fences_false (l : List Bx) (a : Option Addr) (c : Nat) (pid ep : Int) (b : Bat) (ra : Option Addr) (rc : Nat) (w : World) (hl : Sl w w.heap.size a (bxCells l)) (hi : ∀ x ∈ l, BxI w x) (hc : (a = none → c = 0) ∧ l.length ≤ c ∧ c ≤ maxLen)
    (hbw : BatWf b) (hr : Sl w w.heap.size ra (recCells b.l)) :
    Calls Try.prog 7 #[.slice a l.length c, .int .i64 pid, .int .i64 ep, .bool false, bv b ra rc] w fun e w' => e = .returned (.bool true) ∧ Below w.heap.size w w' := by
  obtain ⟨N, hN⟩ : ∃ N, l.length = N := ⟨_, rfl⟩
  rw [hN] at hc ⊢
  have hal := balloc w (.cells (bvc b ra rc) 25)
  have hW := Whole.new w 25 (bvc b ra rc)
  have hl0 := (hl.below hal (Nat.le_refl _)).grow hal.size
  have hi0 : ∀ x ∈ l, BxI (w.alloc (.cells (bvc b ra rc) 25)) x := fun x hx => ⟨(hi x hx).1, ((hi x hx).2.below hal (Nat.le_refl _)).grow hal.size⟩
  have KL := Lib.hid (let_walk l N a c _ hN (by omega) hl0 hi0)
  unfold LetPost at KL
  obtain ⟨hz1, hz8⟩ := ring_z pid 8 (by omega) (by omega)
  obtain ⟨hE1, hE2⟩ := ring_z ep 1000 (by omega) (by omega)
  obtain ⟨z, hz⟩ : ∃ z, wrap64 (1 + (wrap64 (pid.tmod 8 + 8)).tmod 8) = z := ⟨_, rfl⟩
  obtain ⟨E, hE⟩ : ∃ E, wrap64 (1 + (wrap64 (ep.tmod 1000 + 1000)).tmod 1000) = E := ⟨_, rfl⟩
  rw [hz] at hz1 hz8
  rw [hE] at hE1 hE2
  have HZ := Lib.hid hz
  have HE := Lib.hid hE
  clear hi hl hN hc hi0 hl0 hz hE
  unfold bv
  go_enter Try.func7, Try.ntmps7
  go_wp2_with fail
  refine KL.out.mono ?_
  rintro e w1 ⟨I, A, R, nx, a6, a7, a8, c6, c7, c8, rfl, hinv, hI60, hsub, s6, s7, s8, g1⟩
  have W1 := hW.keep g1
  have b1 := gtrans hal g1
  obtain ⟨p, hp⟩ : ∃ p, R.length = p := ⟨_, rfl⟩
  have hp60 : p ≤ 60 := by have := hinv.pl; omega
  obtain ⟨r0, E0, hr0⟩ := rowP_ex R z
  have hr0e := letInv_e hinv (by omega) hr0
  have hr0i := letInv_i hinv hr0
  obtain ⟨D, hD⟩ := ntIs_ex (markB 3 z E) ⟨z, E, 0, 0, 99⟩ true R
  obtain ⟨r1, E1, hr1⟩ := rowP_ex D z
  obtain ⟨rfl, hfr⟩ := fence_row hz1 hE1 hD hr0 hr1
  have hDl : D.length ≤ 61 := by have := ntIs_len' hD; omega
  simp only [hp]
  have KR := Lib.hid (rdrow_walk R p a8 c8 w1.heap.size z w1 r0 E0 hp (by omega) hr0 s8 (Nat.le_refl _))
  have KN := Lib.hid (fun w h => dnote_walk R p a8 c8 w1.heap.size (markB 3 z E) none 0 99 w ⟨z, E, 0, 0, 99⟩ true D hp (by omega) (.inl ⟨by show (2 : Int) < 3; omega, rfl, rfl⟩) hD h)
  have KQ := Lib.hid (fun w a c h => rdrow_walk D D.length a c w.heap.size z w r1 true rfl (by omega) hr1 h (Nat.le_refl _))
  unfold RdPost at KR KQ
  unfold OwnPost at KN
  simp only [bv, bvc, markB, List.length_nil] at KN
  have HR1 := Lib.hid hr1
  have HS8 := Lib.hid s8
  clear hinv hsub s6 s7 KL hr0 hD hr1 hp s8 hW g1 hal
  go_upto_region 6 with fail
  rw [HZ.out, HE.out]
  go_wp2_with fail
  refine KR.out.mono ?_
  rintro e w2 ⟨rfl, g2⟩
  have hax := balloc w2 (.cells #[.int .i64 r0.p, .int .i64 r0.e, .int .i64 r0.s, .int .i64 r0.n, .int .i64 r0.b] 44)
  have X3 := Whole.new w2 44 #[.int .i64 r0.p, .int .i64 r0.e, .int .i64 r0.s, .int .i64 r0.n, .int .i64 r0.b]
  have W3 := (W1.keep g2).keep hax
  have b3 := gtrans (gtrans b1 g2) hax
  have t3 := gtrans g2 hax
  have hz12 : w.heap.size < w1.heap.size := W1.lt
  have hz2 := g2.size
  go_upto_region 10 with fail
  obtain ⟨w3, hw3⟩ : ∃ w3, w3 = w2.alloc (.cells #[.int .i64 r0.p, .int .i64 r0.e, .int .i64 r0.s, .int .i64 r0.n, .int .i64 r0.b] 44) := ⟨_, rfl⟩
  rw [← hw3] at hax X3 W3 b3 t3 ⊢
  clear hw3 KR W1 b1 g2
  have hz3 := t3.size
  have KN := Lib.hid (KN.out w3 (HS8.out.below t3 (Nat.le_refl _)) hz3)
  go_wp2_with fail
  refine KN.out.mono ?_
  rintro e w4 ⟨a9, c9, rfl, own4, g4⟩
  have W4 := W3.keep g4
  have X4 := X3.keep g4
  have b4 := gtrans b3 g4
  have hz4 := g4.size
  clear KN W3 X3 b3 t3 hax
  go_wp2_with fail
  refine (KQ.out _ _ _ (ownN_sl own4)).mono ?_
  rintro e w5 ⟨rfl, g5⟩
  have hay := balloc w5 (.cells #[.int .i64 r1.p, .int .i64 r1.e, .int .i64 r1.s, .int .i64 r1.n, .int .i64 r1.b] 44)
  have Y6 := Whole.new w5 44 #[.int .i64 r1.p, .int .i64 r1.e, .int .i64 r1.s, .int .i64 r1.n, .int .i64 r1.b]
  have W6 := (W4.keep g5).keep hay
  have X6 := (X4.keep g5).keep hay
  have own6 := own_keep (own_keep own4 g5) hay
  have b6 := gtrans (gtrans b4 g5) hay
  have hz5 := g5.size
  go_upto_region 12 with fail
  obtain ⟨w6, hw6⟩ : ∃ w6, w6 = w5.alloc (.cells #[.int .i64 r1.p, .int .i64 r1.e, .int .i64 r1.s, .int .i64 r1.n, .int .i64 r1.b] 44) := ⟨_, rfl⟩
  rw [← hw6] at hay Y6 W6 X6 own6 b6 ⊢
  clear hw6 KQ W4 X4 own4 g4 g5 b4
  have hz6 := hay.size
  have hy6 := Y6.lt
  have hx6 := X6.lt
  have hw6l := W6.lt
  have HO6 := Lib.hid own6
  have HY6 := Lib.hid Y6
  have HX6 := Lib.hid X6
  have HW6 := Lib.hid W6
  have rs6 := (hr.below b6 (Nat.le_refl _)).grow b6.size
  have hr1e : r1.e = max r0.e E := by
    rcases hfr with ⟨h, rfl⟩ | ⟨h, rfl⟩
    · show E = max r0.e E; omega
    · omega
  have hr1b : 1 ≤ r1.e ∧ r1.e ≤ 1099511627776 := by rcases hfr with ⟨h, rfl⟩ | ⟨h, rfl⟩ <;> (try simp only) <;> omega
  have hr1i : I64 r1.s ∧ I64 r1.n := by
    rcases hfr with ⟨h, rfl⟩ | ⟨h, rfl⟩
    · unfold I64; simp
    · exact hr0i
  have hmx : (r1.e != max r0.e E) = false := by rw [hr1e]; simp
  have HE1 := Lib.hid hr1e
  obtain ⟨⟨y0, y1, y2, y3, y4⟩, _⟩ := Y6.fiveP
  obtain ⟨⟨q0, q1, q2, q3, q4⟩, _⟩ := X6.fiveP
  obtain ⟨x0, x1, x2, x3, x4, _⟩ := W6.five
  clear hr1e
  go_upto_region 14 with fail
  by_cases hL : LightB b
  · have HL := Lib.hid (light_walk b b.l.length ra rc _ w6 true rfl ⟨fun _ => hL, fun _ => rfl⟩ rs6 (Nat.le_refl _))
    have hbl : b.l.length ≤ 70 := hL.1
    clear hL
    go_wp2_with fail
    refine HL.out.mono ?_
    rintro e w7 ⟨rfl, g7⟩
    have W7 := HW6.out.keep g7
    have Y7 := HY6.out.keep g7
    have X7 := HX6.out.keep g7
    have b7 := gtrans b6 g7
    have rs7 := (rs6.below g7 (Nat.le_refl _)).grow g7.size
    clear x0 x1 x2 x3 x4 y0 y1 y2 y3 y4 q0 q1 q2 q3 q4
    obtain ⟨x0, x1, x2, x3, x4, hxg⟩ := W7.five
    obtain ⟨⟨y0, y1, y2, y3, y4⟩, hyg⟩ := Y7.fiveP
    obtain ⟨⟨q0, q1, q2, q3, q4⟩, hqg⟩ := X7.fiveP
    by_cases hM : MayB b
    · have HMy := Lib.hid (rmay_walk b ra rc _ w7 true ⟨fun _ => hM, fun _ => rfl⟩ rs7 (Nat.le_refl _))
      have HMb := Lib.hid hM
      clear hM
      go_wp2_with fail
      refine HMy.out.mono ?_
      rintro e w8 ⟨rfl, g8⟩
      have t8 := gtrans g7 g8
      have W8 := W7.keep g8
      have Y8 := Y7.keep g8
      have X8 := X7.keep g8
      have b8 := gtrans b7 g8
      have own8 := own_keep HO6.out t8
      have hz8' := t8.size
      clear W7 Y7 X7 b7 rs7 HL HMy rs6
      clear x0 x1 x2 x3 x4 y0 y1 y2 y3 y4 q0 q1 q2 q3 q4
      clear hxg hyg hqg
      obtain ⟨x0, x1, x2, x3, x4, hxg⟩ := W8.five
      obtain ⟨⟨y0, y1, y2, y3, y4⟩, hyg⟩ := Y8.fiveP
      obtain ⟨⟨q0, q1, q2, q3, q4⟩, hqg⟩ := X8.fiveP
      have HO8 := Lib.hid own8
      have f1 := W8.frozen 1
      have f2 := W8.frozen 2
      have f3 := W8.frozen 3
      clear own8 HO6 HY6 HX6 HW6
      by_cases hk : 2 < b.kind
      · clear hfr
        go_wp2_with fail
        refine (awake7_walk _).mono ?_
        rintro e wZ ⟨rfl, gz⟩
        go_wp2_with fail
        go_ret
        exact ⟨rfl, gtrans b8 gz⟩
      · have hseq := (may_pos HMb.out hk).2.2.1
        have hseq2 := (may_pos HMb.out hk).2.2.2.1
        have hg3 : w.heap.size < w3.heap.size := by omega
        have hs1 : IntKind.i64.wrap (r1.e - 1) = r1.e - 1 := IntWalk.i64_in _ (by omega)
        have hs2 : wrap64 (r1.e - 1) = r1.e - 1 := IntWalk.wrap64_in _ (by omega)
        by_cases hlt : b.epoch < r1.e
        · have W9 : Whole ((w8.setCell ⟨w.heap.size, 1, none⟩ (.int .i64 z)).setCell ⟨w.heap.size, 2, none⟩ (.int .i64 (r1.e - 1))) w.heap.size 25 (bvc ⟨b.kind, z, r1.e - 1, b.seq, b.l⟩ ra rc) := (W8.set 1 _).set 2 _
          have Y9 := (Y8.far w.heap.size 1 (.int .i64 z) (by omega)).far w.heap.size 2 (.int .i64 (r1.e - 1)) (by omega)
          have X9 := (X8.far w.heap.size 1 (.int .i64 z) (by omega)).far w.heap.size 2 (.int .i64 (r1.e - 1)) (by omega)
          have own9 := ownN_far (ownN_far HO8.out w.heap.size 1 (.int .i64 z) hg3) w.heap.size 2 (.int .i64 (r1.e - 1)) hg3
          have b9 := (b8.setCell (p := ⟨w.heap.size, 1, none⟩) (Nat.le_refl _) (.int .i64 z)).setCell (p := ⟨w.heap.size, 2, none⟩) (Nat.le_refl _) (.int .i64 (r1.e - 1))
          clear hfr
          go_upto_region 19 with fail
          obtain ⟨w9, hw9⟩ : ∃ w9, w9 = (w8.setCell ⟨w.heap.size, 1, none⟩ (.int .i64 z)).setCell ⟨w.heap.size, 2, none⟩ (.int .i64 (r1.e - 1)) := ⟨_, rfl⟩
          rw [← hw9] at W9 Y9 X9 own9 b9 ⊢
          clear hw9 W8 Y8 X8 f1 f2 f3 b8
          clear x0 x1 x2 x3 x4 y0 y1 y2 y3 y4 q0 q1 q2 q3 q4
          obtain ⟨x0, x1, x2, x3, x4, hxg9⟩ := W9.five
          obtain ⟨⟨y0, y1, y2, y3, y4⟩, hyg9⟩ := Y9.fiveP
          obtain ⟨⟨q0, q1, q2, q3, q4⟩, hqg9⟩ := X9.fiveP
          by_cases h1 : r1.e = 1
          · have f9 : (r1.e - 1 == 0) = true := by rw [h1]; rfl
            clear h1
            go_wp2_with fail
            refine (awake7_walk _).mono ?_
            rintro e wZ ⟨rfl, gz⟩
            go_wp2_with fail
            go_ret
            exact ⟨rfl, gtrans b9 gz⟩
          · have f9 : (r1.e - 1 == 0) = false := by simp; omega
            have rs9 := (hr.below b9 (Nat.le_refl _)).grow b9.size
            have hd : DlIs ⟨b.kind, z, r1.e - 1, b.seq, b.l⟩ r1 0 false 8 := .inr (.inr ⟨⟨may_turn HMb.out (by omega) ⟨hz1, hz8⟩ ⟨by omega, by omega⟩ ⟨hseq, hseq2⟩, (show ¬ 2 < b.kind by omega), hseq⟩, .inr (.inl ⟨show z ≠ 0 by omega, show r1.e - 1 < r1.e by omega, rfl, rfl, rfl⟩)⟩)
            have K9 := Lib.hid (dlook_walk D D.length a9 c9 w9.heap.size ⟨b.kind, z, r1.e - 1, b.seq, b.l⟩ ra rc w9 r1 0 false 8 true rfl (by omega) (by show b.l.length ≤ maxLen; unfold maxLen; omega) ⟨hbw.k, by show I64 z; unfold I64; omega, by show I64 (r1.e - 1); unfold I64; omega, hbw.s, hbw.r⟩ hr1i HR1.out hd (ownN_sl own9) rs9 (Nat.le_refl _))
            unfold LkPost at K9
            simp only [bv, bvc] at K9
            clear h1 hd rs9 own9
            go_wp2_with fail
            refine K9.out.mono ?_
            rintro e w10 ⟨rfl, g10⟩
            have b10 := gtrans b9 g10
            go_wp2_with fail
            refine (awake7_walk _).mono ?_
            rintro e wZ ⟨rfl, gz⟩
            go_wp2_with fail
            go_ret
            exact ⟨rfl, gtrans b10 gz⟩
        · have W9 : Whole (((w8.setCell ⟨w.heap.size, 1, none⟩ (.int .i64 z)).setCell ⟨w.heap.size, 2, none⟩ (.int .i64 r1.e)).setCell ⟨w.heap.size, 3, none⟩ (.int .i64 0)) w.heap.size 25 (bvc ⟨b.kind, z, r1.e, 0, b.l⟩ ra rc) := ((W8.set 1 _).set 2 _).set 3 _
          have X9 := ((X8.far w.heap.size 1 (.int .i64 z) (by omega)).far w.heap.size 2 (.int .i64 r1.e) (by omega)).far w.heap.size 3 (.int .i64 0) (by omega)
          have own9 := ownN_far (ownN_far (ownN_far HO8.out w.heap.size 1 (.int .i64 z) hg3) w.heap.size 2 (.int .i64 r1.e) hg3) w.heap.size 3 (.int .i64 0) hg3
          have b9 := ((b8.setCell (p := ⟨w.heap.size, 1, none⟩) (Nat.le_refl _) (.int .i64 z)).setCell (p := ⟨w.heap.size, 2, none⟩) (Nat.le_refl _) (.int .i64 r1.e)).setCell (p := ⟨w.heap.size, 3, none⟩) (Nat.le_refl _) (.int .i64 0)
          have hcase : ∃ n d e, DlIs ⟨b.kind, z, r1.e, 0, b.l⟩ r1 n d e ∧ (E ≤ r0.e ∨ (¬ E ≤ r0.e ∧ n = 0 ∧ d = false ∧ e = 0)) := by
            rcases hfr with ⟨h, rfl⟩ | ⟨h, h2⟩
            · refine ⟨0, false, 0, .inr (.inr ⟨⟨may_turn HMb.out hk ⟨hz1, hz8⟩ hr1b ⟨by omega, by omega⟩, hk, by show (0 : Int) ≤ 0; omega⟩, .inr (.inr (.inr (.inr (.inr (.inl ⟨show z ≠ 0 by omega, rfl, (show (0 : Int) ≤ 0 by omega), rfl, rfl, rfl, rfl⟩)))))⟩), .inr ⟨by omega, rfl, rfl, rfl⟩⟩
            · obtain ⟨n, d, e, hd⟩ := dlIs_ex ⟨b.kind, z, r1.e, 0, b.l⟩ r1
              exact ⟨n, d, e, hd, .inl (by omega)⟩
          clear hfr
          go_upto_region 25 with fail
          obtain ⟨w9, hw9⟩ : ∃ w9, w9 = ((w8.setCell ⟨w.heap.size, 1, none⟩ (.int .i64 z)).setCell ⟨w.heap.size, 2, none⟩ (.int .i64 r1.e)).setCell ⟨w.heap.size, 3, none⟩ (.int .i64 0) := ⟨_, rfl⟩
          rw [← hw9] at W9 X9 own9 b9 ⊢
          clear hw9 W8 Y8 X8 f1 f2 f3 b8
          clear x0 x1 x2 x3 x4 y0 y1 y2 y3 y4 q0 q1 q2 q3 q4
          obtain ⟨x0, x1, x2, x3, x4, hxg9⟩ := W9.five
          obtain ⟨n, d, e9, hd, hcase⟩ := hcase
          have rs9 := (hr.below b9 (Nat.le_refl _)).grow b9.size
          have K9 := Lib.hid (dlook_walk D D.length a9 c9 w9.heap.size ⟨b.kind, z, r1.e, 0, b.l⟩ ra rc w9 r1 n d e9 true rfl (by omega) (by show b.l.length ≤ maxLen; unfold maxLen; omega) ⟨hbw.k, by show I64 z; unfold I64; omega, by show I64 r1.e; unfold I64; omega, by show I64 0; unfold I64; omega, hbw.r⟩ hr1i HR1.out hd (ownN_sl own9) rs9 (Nat.le_refl _))
          unfold LkPost at K9
          simp only [bv, bvc] at K9
          clear hd rs9 own9
          go_wp2_with fail
          refine K9.out.mono ?_
          rintro e w10 ⟨rfl, g10⟩
          have b10 := gtrans b9 g10
          obtain ⟨⟨q0, q1, q2, q3, q4⟩, hqg9⟩ := (X9.keep g10).fiveP
          clear x0 x1 x2 x3 x4 HE1
          rcases hcase with hle | ⟨hle, rfl, rfl, rfl⟩
          all_goals
            go_wp2_with fail
            refine (awake7_walk _).mono ?_
            rintro e wZ ⟨rfl, gz⟩
            go_wp2_with fail
            go_ret
            exact ⟨rfl, gtrans b10 gz⟩
    · have HMy := Lib.hid (rmay_walk b ra rc _ w7 false ⟨fun h => (by cases h), fun h => absurd h hM⟩ rs7 (Nat.le_refl _))
      clear hM hfr
      go_wp2_with fail
      refine HMy.out.mono ?_
      rintro e w8 ⟨rfl, g8⟩
      have b8 := gtrans b7 g8
      go_wp2_with fail
      refine (awake7_walk _).mono ?_
      rintro e wZ ⟨rfl, gz⟩
      go_wp2_with fail
      go_ret
      exact ⟨rfl, gtrans b8 gz⟩
  · have HL := Lib.hid (light_walk b b.l.length ra rc _ w6 false rfl ⟨fun h => (by cases h), fun h => absurd h hL⟩ rs6 (Nat.le_refl _))
    clear hL hfr
    go_wp2_with fail
    refine HL.out.mono ?_
    rintro e w7 ⟨rfl, g7⟩
    have b7 := gtrans b6 g7
    go_wp2_with fail
    refine (awake7_walk _).mono ?_
    rintro e wZ ⟨rfl, gz⟩
    go_wp2_with fail
    go_ret
    exact ⟨rfl, gtrans b7 gz⟩
set_option maxRecDepth 100000 in
set_option maxHeartbeats 16000000 in
theorem fences_true (l : List Bx) (a : Option Addr) (c : Nat) (pid ep : Int) (b : Bat) (ra : Option Addr) (rc : Nat) (w : World) (hl : Sl w w.heap.size a (bxCells l)) (hi : ∀ x ∈ l, BxI w x) (hc : (a = none → c = 0) ∧ l.length ≤ c ∧ c ≤ maxLen)
    (hbw : BatWf b) (hr : Sl w w.heap.size ra (recCells b.l)) :
    Calls Try.prog 7 #[.slice a l.length c, .int .i64 pid, .int .i64 ep, .bool true, bv b ra rc] w fun e w' => e = .returned (.bool true) ∧ Below w.heap.size w w' := by
  obtain ⟨N, hN⟩ : ∃ N, l.length = N := ⟨_, rfl⟩
  rw [hN] at hc ⊢
  have hal := balloc w (.cells (bvc b ra rc) 25)
  have hW := Whole.new w 25 (bvc b ra rc)
  have hl0 := (hl.below hal (Nat.le_refl _)).grow hal.size
  have hi0 : ∀ x ∈ l, BxI (w.alloc (.cells (bvc b ra rc) 25)) x := fun x hx => ⟨(hi x hx).1, ((hi x hx).2.below hal (Nat.le_refl _)).grow hal.size⟩
  have KL := Lib.hid (let_walk l N a c _ hN (by omega) hl0 hi0)
  unfold LetPost at KL
  obtain ⟨hz1, hz8⟩ := ring_z pid 8 (by omega) (by omega)
  obtain ⟨hE1, hE2⟩ := ring_z ep 1000 (by omega) (by omega)
  obtain ⟨z, hz⟩ : ∃ z, wrap64 (1 + (wrap64 (pid.tmod 8 + 8)).tmod 8) = z := ⟨_, rfl⟩
  obtain ⟨E, hE⟩ : ∃ E, wrap64 (1 + (wrap64 (ep.tmod 1000 + 1000)).tmod 1000) = E := ⟨_, rfl⟩
  rw [hz] at hz1 hz8
  rw [hE] at hE1 hE2
  have HZ := Lib.hid hz
  have HE := Lib.hid hE
  clear hi hl hN hc hi0 hl0 hz hE
  unfold bv
  go_enter Try.func7, Try.ntmps7
  go_wp2_with fail
  refine KL.out.mono ?_
  rintro e w1 ⟨I, A, R, nx, a6, a7, a8, c6, c7, c8, rfl, hinv, hI60, hsub, s6, s7, s8, g1⟩
  have W1 := hW.keep g1
  have b1 := gtrans hal g1
  obtain ⟨p, hp⟩ : ∃ p, R.length = p := ⟨_, rfl⟩
  have hp60 : p ≤ 60 := by have := hinv.pl; omega
  obtain ⟨r0, E0, hr0⟩ := rowP_ex R z
  have hr0e := letInv_e hinv (by omega) hr0
  have hr0i := letInv_i hinv hr0
  obtain ⟨D, hD⟩ := ntIs_ex (markB 4 z E) ⟨z, E, 0, 0, 99⟩ true R
  obtain ⟨r1, E1, hr1⟩ := rowP_ex D z
  obtain ⟨rfl, hfr⟩ := fence_row hz1 hE1 hD hr0 hr1
  have hDl : D.length ≤ 61 := by have := ntIs_len' hD; omega
  simp only [hp]
  have KR := Lib.hid (rdrow_walk R p a8 c8 w1.heap.size z w1 r0 E0 hp (by omega) hr0 s8 (Nat.le_refl _))
  have KN := Lib.hid (fun w h => dnote_walk R p a8 c8 w1.heap.size (markB 4 z E) none 0 99 w ⟨z, E, 0, 0, 99⟩ true D hp (by omega) (.inl ⟨by show (2 : Int) < 4; omega, rfl, rfl⟩) hD h)
  have KQ := Lib.hid (fun w a c h => rdrow_walk D D.length a c w.heap.size z w r1 true rfl (by omega) hr1 h (Nat.le_refl _))
  unfold RdPost at KR KQ
  unfold OwnPost at KN
  simp only [bv, bvc, markB, List.length_nil] at KN
  have HR1 := Lib.hid hr1
  have HS8 := Lib.hid s8
  clear hinv hsub s6 s7 KL hr0 hD hr1 hp s8 hW g1 hal
  go_upto_region 6 with fail
  rw [HZ.out, HE.out]
  go_wp2_with fail
  refine KR.out.mono ?_
  rintro e w2 ⟨rfl, g2⟩
  have hax := balloc w2 (.cells #[.int .i64 r0.p, .int .i64 r0.e, .int .i64 r0.s, .int .i64 r0.n, .int .i64 r0.b] 44)
  have X3 := Whole.new w2 44 #[.int .i64 r0.p, .int .i64 r0.e, .int .i64 r0.s, .int .i64 r0.n, .int .i64 r0.b]
  have W3 := (W1.keep g2).keep hax
  have b3 := gtrans (gtrans b1 g2) hax
  have t3 := gtrans g2 hax
  have hz12 : w.heap.size < w1.heap.size := W1.lt
  have hz2 := g2.size
  go_upto_region 10 with fail
  obtain ⟨w3, hw3⟩ : ∃ w3, w3 = w2.alloc (.cells #[.int .i64 r0.p, .int .i64 r0.e, .int .i64 r0.s, .int .i64 r0.n, .int .i64 r0.b] 44) := ⟨_, rfl⟩
  rw [← hw3] at hax X3 W3 b3 t3 ⊢
  clear hw3 KR W1 b1 g2
  have hz3 := t3.size
  have KN := Lib.hid (KN.out w3 (HS8.out.below t3 (Nat.le_refl _)) hz3)
  go_wp2_with fail
  refine KN.out.mono ?_
  rintro e w4 ⟨a9, c9, rfl, own4, g4⟩
  have W4 := W3.keep g4
  have X4 := X3.keep g4
  have b4 := gtrans b3 g4
  have hz4 := g4.size
  clear KN W3 X3 b3 t3 hax
  go_wp2_with fail
  refine (KQ.out _ _ _ (ownN_sl own4)).mono ?_
  rintro e w5 ⟨rfl, g5⟩
  have hay := balloc w5 (.cells #[.int .i64 r1.p, .int .i64 r1.e, .int .i64 r1.s, .int .i64 r1.n, .int .i64 r1.b] 44)
  have Y6 := Whole.new w5 44 #[.int .i64 r1.p, .int .i64 r1.e, .int .i64 r1.s, .int .i64 r1.n, .int .i64 r1.b]
  have W6 := (W4.keep g5).keep hay
  have X6 := (X4.keep g5).keep hay
  have own6 := own_keep (own_keep own4 g5) hay
  have b6 := gtrans (gtrans b4 g5) hay
  have hz5 := g5.size
  go_upto_region 12 with fail
  obtain ⟨w6, hw6⟩ : ∃ w6, w6 = w5.alloc (.cells #[.int .i64 r1.p, .int .i64 r1.e, .int .i64 r1.s, .int .i64 r1.n, .int .i64 r1.b] 44) := ⟨_, rfl⟩
  rw [← hw6] at hay Y6 W6 X6 own6 b6 ⊢
  clear hw6 KQ W4 X4 own4 g4 g5 b4
  have hz6 := hay.size
  have hy6 := Y6.lt
  have hx6 := X6.lt
  have hw6l := W6.lt
  have HO6 := Lib.hid own6
  have HY6 := Lib.hid Y6
  have HX6 := Lib.hid X6
  have HW6 := Lib.hid W6
  have rs6 := (hr.below b6 (Nat.le_refl _)).grow b6.size
  have hr1e : r1.e = max r0.e E := by
    rcases hfr with ⟨h, rfl⟩ | ⟨h, rfl⟩
    · show E = max r0.e E; omega
    · omega
  have hr1b : 1 ≤ r1.e ∧ r1.e ≤ 1099511627776 := by rcases hfr with ⟨h, rfl⟩ | ⟨h, rfl⟩ <;> (try simp only) <;> omega
  have hr1i : I64 r1.s ∧ I64 r1.n := by
    rcases hfr with ⟨h, rfl⟩ | ⟨h, rfl⟩
    · unfold I64; simp
    · exact hr0i
  have hmx : (r1.e != max r0.e E) = false := by rw [hr1e]; simp
  have HE1 := Lib.hid hr1e
  obtain ⟨⟨y0, y1, y2, y3, y4⟩, _⟩ := Y6.fiveP
  obtain ⟨⟨q0, q1, q2, q3, q4⟩, _⟩ := X6.fiveP
  obtain ⟨x0, x1, x2, x3, x4, _⟩ := W6.five
  clear hr1e
  go_upto_region 14 with fail
  by_cases hL : LightB b
  · have HL := Lib.hid (light_walk b b.l.length ra rc _ w6 true rfl ⟨fun _ => hL, fun _ => rfl⟩ rs6 (Nat.le_refl _))
    have hbl : b.l.length ≤ 70 := hL.1
    clear hL
    go_wp2_with fail
    refine HL.out.mono ?_
    rintro e w7 ⟨rfl, g7⟩
    have W7 := HW6.out.keep g7
    have Y7 := HY6.out.keep g7
    have X7 := HX6.out.keep g7
    have b7 := gtrans b6 g7
    have rs7 := (rs6.below g7 (Nat.le_refl _)).grow g7.size
    clear x0 x1 x2 x3 x4 y0 y1 y2 y3 y4 q0 q1 q2 q3 q4
    obtain ⟨x0, x1, x2, x3, x4, hxg⟩ := W7.five
    obtain ⟨⟨y0, y1, y2, y3, y4⟩, hyg⟩ := Y7.fiveP
    obtain ⟨⟨q0, q1, q2, q3, q4⟩, hqg⟩ := X7.fiveP
    by_cases hM : MayB b
    · have HMy := Lib.hid (rmay_walk b ra rc _ w7 true ⟨fun _ => hM, fun _ => rfl⟩ rs7 (Nat.le_refl _))
      have HMb := Lib.hid hM
      clear hM
      go_wp2_with fail
      refine HMy.out.mono ?_
      rintro e w8 ⟨rfl, g8⟩
      have t8 := gtrans g7 g8
      have W8 := W7.keep g8
      have Y8 := Y7.keep g8
      have X8 := X7.keep g8
      have b8 := gtrans b7 g8
      have own8 := own_keep HO6.out t8
      have hz8' := t8.size
      clear W7 Y7 X7 b7 rs7 HL HMy rs6
      clear x0 x1 x2 x3 x4 y0 y1 y2 y3 y4 q0 q1 q2 q3 q4
      clear hxg hyg hqg
      obtain ⟨x0, x1, x2, x3, x4, hxg⟩ := W8.five
      obtain ⟨⟨y0, y1, y2, y3, y4⟩, hyg⟩ := Y8.fiveP
      obtain ⟨⟨q0, q1, q2, q3, q4⟩, hqg⟩ := X8.fiveP
      have HO8 := Lib.hid own8
      have f1 := W8.frozen 1
      have f2 := W8.frozen 2
      have f3 := W8.frozen 3
      clear own8 HO6 HY6 HX6 HW6
      by_cases hk : 2 < b.kind
      · clear hfr
        go_wp2_with fail
        refine (awake7_walk _).mono ?_
        rintro e wZ ⟨rfl, gz⟩
        go_wp2_with fail
        go_ret
        exact ⟨rfl, gtrans b8 gz⟩
      · have hseq := (may_pos HMb.out hk).2.2.1
        have hseq2 := (may_pos HMb.out hk).2.2.2.1
        have hg3 : w.heap.size < w3.heap.size := by omega
        have hs1 : IntKind.i64.wrap (r1.e - 1) = r1.e - 1 := IntWalk.i64_in _ (by omega)
        have hs2 : wrap64 (r1.e - 1) = r1.e - 1 := IntWalk.wrap64_in _ (by omega)
        by_cases hlt : b.epoch < r1.e
        · have W9 : Whole ((w8.setCell ⟨w.heap.size, 1, none⟩ (.int .i64 z)).setCell ⟨w.heap.size, 2, none⟩ (.int .i64 (r1.e - 1))) w.heap.size 25 (bvc ⟨b.kind, z, r1.e - 1, b.seq, b.l⟩ ra rc) := (W8.set 1 _).set 2 _
          have Y9 := (Y8.far w.heap.size 1 (.int .i64 z) (by omega)).far w.heap.size 2 (.int .i64 (r1.e - 1)) (by omega)
          have X9 := (X8.far w.heap.size 1 (.int .i64 z) (by omega)).far w.heap.size 2 (.int .i64 (r1.e - 1)) (by omega)
          have own9 := ownN_far (ownN_far HO8.out w.heap.size 1 (.int .i64 z) hg3) w.heap.size 2 (.int .i64 (r1.e - 1)) hg3
          have b9 := (b8.setCell (p := ⟨w.heap.size, 1, none⟩) (Nat.le_refl _) (.int .i64 z)).setCell (p := ⟨w.heap.size, 2, none⟩) (Nat.le_refl _) (.int .i64 (r1.e - 1))
          clear hfr
          go_upto_region 19 with fail
          obtain ⟨w9, hw9⟩ : ∃ w9, w9 = (w8.setCell ⟨w.heap.size, 1, none⟩ (.int .i64 z)).setCell ⟨w.heap.size, 2, none⟩ (.int .i64 (r1.e - 1)) := ⟨_, rfl⟩
          rw [← hw9] at W9 Y9 X9 own9 b9 ⊢
          clear hw9 W8 Y8 X8 f1 f2 f3 b8
          clear x0 x1 x2 x3 x4 y0 y1 y2 y3 y4 q0 q1 q2 q3 q4
          obtain ⟨x0, x1, x2, x3, x4, hxg9⟩ := W9.five
          obtain ⟨⟨y0, y1, y2, y3, y4⟩, hyg9⟩ := Y9.fiveP
          obtain ⟨⟨q0, q1, q2, q3, q4⟩, hqg9⟩ := X9.fiveP
          by_cases h1 : r1.e = 1
          · have f9 : (r1.e - 1 == 0) = true := by rw [h1]; rfl
            clear h1
            go_wp2_with fail
            refine (awake7_walk _).mono ?_
            rintro e wZ ⟨rfl, gz⟩
            go_wp2_with fail
            go_ret
            exact ⟨rfl, gtrans b9 gz⟩
          · have f9 : (r1.e - 1 == 0) = false := by simp; omega
            have rs9 := (hr.below b9 (Nat.le_refl _)).grow b9.size
            have hd : DlIs ⟨b.kind, z, r1.e - 1, b.seq, b.l⟩ r1 0 false 8 := .inr (.inr ⟨⟨may_turn HMb.out (by omega) ⟨hz1, hz8⟩ ⟨by omega, by omega⟩ ⟨hseq, hseq2⟩, (show ¬ 2 < b.kind by omega), hseq⟩, .inr (.inl ⟨show z ≠ 0 by omega, show r1.e - 1 < r1.e by omega, rfl, rfl, rfl⟩)⟩)
            have K9 := Lib.hid (dlook_walk D D.length a9 c9 w9.heap.size ⟨b.kind, z, r1.e - 1, b.seq, b.l⟩ ra rc w9 r1 0 false 8 true rfl (by omega) (by show b.l.length ≤ maxLen; unfold maxLen; omega) ⟨hbw.k, by show I64 z; unfold I64; omega, by show I64 (r1.e - 1); unfold I64; omega, hbw.s, hbw.r⟩ hr1i HR1.out hd (ownN_sl own9) rs9 (Nat.le_refl _))
            unfold LkPost at K9
            simp only [bv, bvc] at K9
            clear h1 hd rs9 own9
            go_wp2_with fail
            refine K9.out.mono ?_
            rintro e w10 ⟨rfl, g10⟩
            have b10 := gtrans b9 g10
            go_wp2_with fail
            refine (awake7_walk _).mono ?_
            rintro e wZ ⟨rfl, gz⟩
            go_wp2_with fail
            go_ret
            exact ⟨rfl, gtrans b10 gz⟩
        · have W9 : Whole (((w8.setCell ⟨w.heap.size, 1, none⟩ (.int .i64 z)).setCell ⟨w.heap.size, 2, none⟩ (.int .i64 r1.e)).setCell ⟨w.heap.size, 3, none⟩ (.int .i64 0)) w.heap.size 25 (bvc ⟨b.kind, z, r1.e, 0, b.l⟩ ra rc) := ((W8.set 1 _).set 2 _).set 3 _
          have X9 := ((X8.far w.heap.size 1 (.int .i64 z) (by omega)).far w.heap.size 2 (.int .i64 r1.e) (by omega)).far w.heap.size 3 (.int .i64 0) (by omega)
          have own9 := ownN_far (ownN_far (ownN_far HO8.out w.heap.size 1 (.int .i64 z) hg3) w.heap.size 2 (.int .i64 r1.e) hg3) w.heap.size 3 (.int .i64 0) hg3
          have b9 := ((b8.setCell (p := ⟨w.heap.size, 1, none⟩) (Nat.le_refl _) (.int .i64 z)).setCell (p := ⟨w.heap.size, 2, none⟩) (Nat.le_refl _) (.int .i64 r1.e)).setCell (p := ⟨w.heap.size, 3, none⟩) (Nat.le_refl _) (.int .i64 0)
          have hcase : ∃ n d e, DlIs ⟨b.kind, z, r1.e, 0, b.l⟩ r1 n d e ∧ (E ≤ r0.e ∨ (¬ E ≤ r0.e ∧ n = 0 ∧ d = false ∧ e = 0)) := by
            rcases hfr with ⟨h, rfl⟩ | ⟨h, h2⟩
            · refine ⟨0, false, 0, .inr (.inr ⟨⟨may_turn HMb.out hk ⟨hz1, hz8⟩ hr1b ⟨by omega, by omega⟩, hk, by show (0 : Int) ≤ 0; omega⟩, .inr (.inr (.inr (.inr (.inr (.inl ⟨show z ≠ 0 by omega, rfl, (show (0 : Int) ≤ 0 by omega), rfl, rfl, rfl, rfl⟩)))))⟩), .inr ⟨by omega, rfl, rfl, rfl⟩⟩
            · obtain ⟨n, d, e, hd⟩ := dlIs_ex ⟨b.kind, z, r1.e, 0, b.l⟩ r1
              exact ⟨n, d, e, hd, .inl (by omega)⟩
          clear hfr
          go_upto_region 25 with fail
          obtain ⟨w9, hw9⟩ : ∃ w9, w9 = ((w8.setCell ⟨w.heap.size, 1, none⟩ (.int .i64 z)).setCell ⟨w.heap.size, 2, none⟩ (.int .i64 r1.e)).setCell ⟨w.heap.size, 3, none⟩ (.int .i64 0) := ⟨_, rfl⟩
          rw [← hw9] at W9 X9 own9 b9 ⊢
          clear hw9 W8 Y8 X8 f1 f2 f3 b8
          clear x0 x1 x2 x3 x4 y0 y1 y2 y3 y4 q0 q1 q2 q3 q4
          obtain ⟨x0, x1, x2, x3, x4, hxg9⟩ := W9.five
          obtain ⟨n, d, e9, hd, hcase⟩ := hcase
          have rs9 := (hr.below b9 (Nat.le_refl _)).grow b9.size
          have K9 := Lib.hid (dlook_walk D D.length a9 c9 w9.heap.size ⟨b.kind, z, r1.e, 0, b.l⟩ ra rc w9 r1 n d e9 true rfl (by omega) (by show b.l.length ≤ maxLen; unfold maxLen; omega) ⟨hbw.k, by show I64 z; unfold I64; omega, by show I64 r1.e; unfold I64; omega, by show I64 0; unfold I64; omega, hbw.r⟩ hr1i HR1.out hd (ownN_sl own9) rs9 (Nat.le_refl _))
          unfold LkPost at K9
          simp only [bv, bvc] at K9
          clear hd rs9 own9
          go_wp2_with fail
          refine K9.out.mono ?_
          rintro e w10 ⟨rfl, g10⟩
          have b10 := gtrans b9 g10
          obtain ⟨⟨q0, q1, q2, q3, q4⟩, hqg9⟩ := (X9.keep g10).fiveP
          clear x0 x1 x2 x3 x4 HE1
          rcases hcase with hle | ⟨hle, rfl, rfl, rfl⟩
          all_goals
            go_wp2_with fail
            refine (awake7_walk _).mono ?_
            rintro e wZ ⟨rfl, gz⟩
            go_wp2_with fail
            go_ret
            exact ⟨rfl, gtrans b10 gz⟩
    · have HMy := Lib.hid (rmay_walk b ra rc _ w7 false ⟨fun h => (by cases h), fun h => absurd h hM⟩ rs7 (Nat.le_refl _))
      clear hM hfr
      go_wp2_with fail
      refine HMy.out.mono ?_
      rintro e w8 ⟨rfl, g8⟩
      have b8 := gtrans b7 g8
      go_wp2_with fail
      refine (awake7_walk _).mono ?_
      rintro e wZ ⟨rfl, gz⟩
      go_wp2_with fail
      go_ret
      exact ⟨rfl, gtrans b8 gz⟩
  · have HL := Lib.hid (light_walk b b.l.length ra rc _ w6 false rfl ⟨fun h => (by cases h), fun h => absurd h hL⟩ rs6 (Nat.le_refl _))
    clear hL hfr
    go_wp2_with fail
    refine HL.out.mono ?_
    rintro e w7 ⟨rfl, g7⟩
    have b7 := gtrans b6 g7
    go_wp2_with fail
    refine (awake7_walk _).mono ?_
    rintro e wZ ⟨rfl, gz⟩
    go_wp2_with fail
    go_ret
    exact ⟨rfl, gtrans b7 gz⟩
theorem dedupFences_law (l : List Bx) (a : Option Addr) (c : Nat) (pid ep : Int) (ab : Bool) (b : Bat) (ra : Option Addr) (rc : Nat) (w : World) (hl : Sl w w.heap.size a (bxCells l)) (hi : ∀ x ∈ l, BxI w x) (hc : (a = none → c = 0) ∧ l.length ≤ c ∧ c ≤ maxLen)
    (hpid : (Lit.int .i64 pid).wf = true) (hep : (Lit.int .i64 ep).wf = true) (hbw : BatWf b) (hr : Sl w w.heap.size ra (recCells b.l)) :
    Calls Try.prog 7 #[.slice a l.length c, .int .i64 pid, .int .i64 ep, .bool ab, bv b ra rc] w fun e w' => e = .returned (.bool true) ∧ Below w.heap.size w w' := by
  cases ab with
  | false => exact fences_false l a c pid ep b ra rc w hl hi hc hbw hr
  | true => exact fences_true l a c pid ep b ra rc w hl hi hc hbw hr
end Go.Proofs.Ytfjnmjibifefgaa
