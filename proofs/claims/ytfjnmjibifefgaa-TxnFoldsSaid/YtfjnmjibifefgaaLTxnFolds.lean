/- The walk of the statement TxnFolds of layer 12. -/
import Derived.Test.YtfjnmjibifefgaaTxRFold
import Derived.Test.YtfjnmjibifefgaaTxFold
import Derived.Test.YtfjnmjibifefgaaTxBeh
import Derived.Test.YtfjnmjibifefgaaTrSame
import Derived.Test.YtfjnmjibifefgaaTrOpen
import Derived.Test.YtfjnmjibifefgaaApp
namespace Go.Proofs.Ytfjnmjibifefgaa
open Go.RowKit Vm
set_option linter.unusedVariables false
set_option linter.unusedSimpArgs false

set_option maxRecDepth 100000 in
set_option maxHeartbeats 8000000 in
theorem txnFolds_law (l : List Tr) (a : Option Addr) (c : Nat) (k p m : Int) (w : World) (hl1 : Sl w w.heap.size a (trCells l)) (hi1 : ∀ r ∈ l, TrI r) (hc1 : (a = none → c = 0) ∧ l.length ≤ c ∧ c ≤ maxLen) (hkw : (Lit.int .i64 k).wf = true) (hpw : (Lit.int .i64 p).wf = true) (hmw : (Lit.int .i64 m).wf = true) :
    Calls Try.prog 8 #[.slice a l.length c, .agg #[.int .i64 k, .int .i64 p, .int .i64 m]] w fun e w' => e = .returned (.bool true) ∧ Below w.heap.size w w' := by
  have hal := balloc w (.cells #[.int .i64 k, .int .i64 p, .int .i64 m] 50)
  have hW := Whole.new w 50 #[.int .i64 k, .int .i64 p, .int .i64 m]
  have hzz : w.heap.size < (w.alloc (.cells #[.int .i64 k, .int .i64 p, .int .i64 m] 50)).heap.size := by simp
  have s0 := (hl1.below hal (Nat.le_refl _)).grow hal.size
  clear hi1 hkw hpw hmw hl1
  obtain ⟨N, hN⟩ : ∃ N, l.length = N := ⟨_, rfl⟩
  rw [hN] at hc1 ⊢
  have HNe := Lib.hid hN
  have HC1 := Lib.hid hc1
  clear hN hc1
  by_cases hbig : 20 < N
  · have hb2 : (20 : Int) < (N : Int) := by omega
    clear s0
    go_enter Try.func8, Try.ntmps8
    go_wp2_with fail
    refine (awake12_walk _).mono ?_
    rintro e w6 ⟨rfl, g6⟩
    go_wp2_with fail
    go_ret
    exact ⟨rfl, gtrans hal g6⟩
  have hb2 : ¬ (20 : Int) < (N : Int) := by omega
  obtain ⟨i0, hi, hz0, hz1, hz3⟩ := info_parts info_tr
  go_enter Try.func8, Try.ntmps8
  go_wp2_with fail
  obtain ⟨w0, hw0⟩ : ∃ w0, w0 = w.alloc (.cells #[.int .i64 k, .int .i64 p, .int .i64 m] 50) := ⟨_, rfl⟩
  rw [← hw0] at hal hW hzz s0 ⊢
  clear hw0
  have x0 := hW.cell 0
  have x1 := hW.cell 1
  have x2 := hW.cell 2
  simp only [List.getElem?_toArray, List.getElem?_cons_zero, List.getElem?_cons_succ] at x0 x1 x2
  go_loop [0, 5] (fun S I => ∃ (M q : Nat), M ≤ N ∧ q ≤ M + 1 ∧ S = .slice a M c ∧ I = .int .i64 q ∧ Hid (∀ j, j < q → j < M → 0 ≤ (l.getD j tr0).m ∧ (l.getD j tr0).m < 8192)) (fun _ I => 22 - (intOf I).toNat)
  case atStart => exact ⟨N, 0, Nat.le_refl _, by omega, rfl, rfl, Lib.hid (fun j hj => by omega)⟩
  case round =>
    obtain ⟨M, q, hMN, hqM, rfl, rfl, HQ⟩ := hrel
    by_cases hlt : q < M
    · have hql : q < l.length := by rw [HNe.out]; omega
      obtain ⟨b1, o1, rfl, hb1, hc⟩ := s0.tr (by omega)
      obtain ⟨_, _, _, r3, _⟩ := hc q hql
      have hMc : M ≤ c := by have := HC1.out.2.1; omega
      have hqc : q ≤ c := by omega
      by_cases hbad : (l.getD q tr0).m < 0 ∨ 8192 ≤ (l.getD q tr0).m
      · have HQ2 := Lib.hid (show ∀ j, j < q + 1 → j < q → 0 ≤ (l.getD j tr0).m ∧ (l.getD j tr0).m < 8192 from fun j _ hj => HQ.out j hj (by omega))
        have hbad2 : (l.getD q tr0).m < 0 ∨ (¬ (l.getD q tr0).m < 0 ∧ 8192 ≤ (l.getD q tr0).m) := by omega
        clear hc HQ hbad
        generalize (l.getD q tr0).m = y at *
        rcases hbad2 with hy | ⟨hy, hy2⟩
        all_goals
          go_wp2_with fail
          go_round
          case rel => exact ⟨q, q + 1, by omega, by omega, rfl, by go_num, HQ2⟩
          case measure => simp [intOf]; omega
      · have HQ2 := Lib.hid (show ∀ j, j < q + 1 → j < M → 0 ≤ (l.getD j tr0).m ∧ (l.getD j tr0).m < 8192 from fun j h1 hj => by
          rcases Nat.lt_or_ge j q with h2 | h2
          · exact HQ.out j h2 hj
          · rw [show j = q from by omega]; omega)
        obtain ⟨hy, hy2⟩ : ¬ (l.getD q tr0).m < 0 ∧ ¬ 8192 ≤ (l.getD q tr0).m := by omega
        clear hc HQ hbad
        generalize hyy : (l.getD q tr0).m = y at *
        clear hyy
        go_wp2_with fail
        go_round
        case rel => exact ⟨M, q + 1, by omega, by omega, rfl, by go_num, HQ2⟩
        case measure => simp [intOf]; omega
    · have hls : (l.take M).length = M := by rw [List.length_take, HNe.out]; omega
      have hall : ∀ x ∈ l.take M, 0 ≤ x.m ∧ x.m < 8192 := fun x hx => by
        obtain ⟨j, hj, hjx⟩ := List.getElem_of_mem hx
        rw [hls] at hj
        have := HQ.out j (by omega) hj
        rwa [show l.getD j tr0 = x by rw [← hjx, List.getElem_take]; simp [List.getD, show j < l.length by rw [HNe.out]; omega]] at this
      have p0 := tr_pre s0 M
      have hcap : (a = none → c = 0) ∧ M ≤ c := ⟨HC1.out.1, by have := HC1.out.2.1; omega⟩
      clear HQ s0
      generalize l.take M = ls at *
      have hM20 : M ≤ 20 := by omega
      have HF := Lib.hid (foldF_is ls ⟨k, p, m⟩)
      have hDl := foldF_len ls ⟨k, p, m⟩
      generalize (foldF ls ⟨k, p, m⟩).1 = D at *
      generalize (foldF ls ⟨k, p, m⟩).2 = E at *
      have H1 := Lib.hid (fun w h => tfold_walk ls M a c w.heap.size k p m w D E hls (by unfold maxLen; omega) HF.out h (Nat.le_refl _))
      have H2 := Lib.hid (fun w a c h hac => rfold12_walk ls M a c w.heap.size k p m w D E hls (by omega) hall HF.out h (Nat.le_refl _) hac)
      have S1 := Lib.hid (fun a1 a2 c1 c2 w h1 h2 => same_tr D D.length a1 a2 c1 c2 w.heap.size w rfl (by omega) h1 h2 (Nat.le_refl _))
      have S2 := Lib.hid (fun a1 a2 c1 c2 w h1 h2 => same_tr ls M a1 a2 c1 c2 w.heap.size w hls (by omega) h1 h2 (Nat.le_refl _))
      unfold FdPost at H1
      unfold RfPost at H2
      have HLS := Lib.hid hls
      have HCP := Lib.hid hcap
      clear HF hDl hall hls hcap
      have HNil := Lib.hid (show w0.ownsRow w0.heap.size 52 5 (.slice none 0 0) 0 [] from World.ownsRow_nil _ _ _ _)
      go_wp2_with (at_builtin; refine wp_app rfl _ _ 48 rfl w0.heap.size 52 i0 (.agg #[.int .i64 0, .int .i64 0, .int .i64 0, .int .i64 0, .int .i64 0]) 5 40 Try.underlying48 hi hz0 hz1 hz3 rfl (by decide) _ _ _ rfl HNil.out a M c rfl (trCells ls) w0.heap.size w0 ?c1 p0 ?c2 (trCells_one _) ?c3 ?c4 (Nat.le_refl _) (Below.refl _ _) ?_)
      case c1 => rw [trCells_length, HLS.out]
      case c2 => intro h; have h1 := HCP.out.1 h; have h2 := HCP.out.2; exact ⟨by omega, h1⟩
      case c3 => unfold maxLen; omega
      case c4 => omega
      intro a2 c2 w2 own2 b2
      have k2 := ownN_sl own2
      have HOC := Lib.hid (ownN_cap own2)
      have p2 := (p0.below b2 (Nat.le_refl _)).grow b2.size
      have W2 := hW.keep b2
      have g2 := gtrans hal b2
      have hz2 := W2.lt
      clear own2 p0 b2 x0 x1 x2
      have x0 := W2.cell 0
      have x1 := W2.cell 1
      have x2 := W2.cell 2
      simp only [List.getElem?_toArray, List.getElem?_cons_zero, List.getElem?_cons_succ, List.nil_append] at x0 x1 x2 k2
      go_wp2_with fail
      refine (H1.out _ p2).mono ?_
      rintro e w3 ⟨a3, c3, rfl, s3, g3, _, _⟩
      have p3 := (p2.below g3 (Nat.le_refl _)).grow g3.size
      have k3 := (k2.below g3 (Nat.le_refl _)).grow g3.size
      have W3 := W2.keep g3
      have g3 := gtrans g2 g3
      have hz3' := W3.lt
      clear p2 k2 g2 x0 x1 x2 W2
      have x0 := W3.cell 0
      have x1 := W3.cell 1
      have x2 := W3.cell 2
      simp only [List.getElem?_toArray, List.getElem?_cons_zero, List.getElem?_cons_succ] at x0 x1 x2
      go_wp2_with fail
      refine (H2.out _ _ _ (by first | exact k3 | simpa using k3) (by first | exact HOC.out | simpa using HOC.out)).mono ?_
      rintro e w4 ⟨a4, c4, rfl, s4, g4⟩
      have p4 := (p3.below g4 (Nat.le_refl _)).grow g4.size
      have k4 := (k3.below g4 (Nat.le_refl _)).grow g4.size
      have s34 := (s3.below g4 (Nat.le_refl _)).grow g4.size
      have g4 := gtrans g3 g4
      clear p3 k3 g3 x0 x1 x2 s3
      go_wp2_with fail
      refine (S1.out _ _ _ _ _ s34 s4).mono ?_
      rintro e w5 ⟨rfl, g5⟩
      have p5 := (p4.below g5 (Nat.le_refl _)).grow g5.size
      have k5 := (k4.below g5 (Nat.le_refl _)).grow g5.size
      go_wp2_with fail
      refine (S2.out _ _ _ _ _ p5 k5).mono ?_
      rintro e w6 ⟨rfl, g6⟩
      go_wp2_with fail
      refine (awake12_walk _).mono ?_
      rintro e w7 ⟨rfl, g7⟩
      go_wp2_with fail
      go_ret
      exact ⟨rfl, gtrans (gtrans (gtrans g4 g5) g6) g7⟩
end Go.Proofs.Ytfjnmjibifefgaa
