/- The walk of headgateref07.Look. -/
import Derived.Test.YtfjnmjibifefgaaDdLk
import Derived.Test.YtfjnmjibifefgaaDdRow
import Derived.Test.YtfjnmjibifefgaaRefBatMay
namespace Go.Proofs.Ytfjnmjibifefgaa
open Go.RowKit Vm Bm
set_option linter.unusedVariables false
set_option linter.unusedSimpArgs false

theorem wrap_sub64 (q s n : Int) (hq : I64 q) (hs : I64 s) (hn : I64 n) : wrap64 (q - n) = s ↔ q = IntKind.i64.wrap (s + n) := by
  rw [← wrap_sub q s n hq hs hn, IntKind.wrap_i64]; unfold wrap64; exact Iff.rfl

set_option maxRecDepth 100000 in
set_option maxHeartbeats 4000000 in
theorem rlook_walk (l : List Pr) (N : Nat) (a : Option Addr) (c B : Nat) (b : Bat) (ab : Option Addr) (cb : Nat) (w : World) (r : Pr) (n : Int) (d : Bool) (E : Int) (EE : Bool) (hN : l.length = N) (hNm : N ≤ 2000) (hbl : b.l.length ≤ maxLen) (hbw : BatWf b) (hrw : I64 r.s ∧ I64 r.n) (hR : RowP l b.pid r EE) (hD : DlIs b r n d E) (h : Sl w B a (prCells l)) (hr : Sl w B ab (recCells b.l)) (hB : B ≤ w.heap.size) :
    Calls Try.prog 18 #[.slice a N c, bv b ab cb] w (LkPost w n d E) := by
  have hal := balloc w (.cells (bvc b ab cb) 25)
  have hW := Whole.new w 25 (bvc b ab cb)
  have h' := h.below hal hB
  have hr' := hr.below hal hB
  have hB' := Nat.le_trans hB hal.size
  obtain ⟨x0, x1, x2, x3, x4, hg⟩ := hW.five
  have H1 := Lib.hid (fun d hd => rmay_walk b ab cb B (w.alloc (.cells (bvc b ab cb) 25)) d hd hr' hB')
  have H2 := Lib.hid (fun w1 (h1 : Sl w1 B a (prCells l)) (hB1 : B ≤ w1.heap.size) => rdrow_walk l N a c B b.pid w1 r EE hN hNm hR h1 hB1)
  unfold RdPost at H2
  rcases hD with ⟨hm, rfl, rfl, rfl⟩ | ⟨hm, hk, rfl, rfl, rfl⟩ | ⟨⟨hm, hk, hq⟩, hD⟩
  · have H1 := Lib.hid (H1.out false ⟨fun h => (nomatch h), fun h => absurd h hm⟩)
    clear hm h hr h' hr' hR
    unfold bv
    go_enter Try.func18, Try.ntmps18
    go_wp2_with fail
    refine H1.out.mono ?_
    rintro e w1 ⟨rfl, g1⟩
    go_wp2_with fail
    go_ret3
    exact ⟨rfl, gtrans hal g1⟩
  · have H1 := Lib.hid (H1.out true ⟨fun _ => hm, fun _ => rfl⟩)
    clear hm h hr hr' hR x0 x1 x2 x3 x4
    unfold bv
    go_enter Try.func18, Try.ntmps18
    have y := hW.five
    obtain ⟨x0, x1, x2, x3, x4, _⟩ := y
    go_wp2_with fail
    refine H1.out.mono ?_
    rintro e w1 ⟨rfl, g1⟩
    have W1 := hW.keep g1
    clear x0 x1 x2 x3 x4
    obtain ⟨x0, x1, x2, x3, x4, hg1⟩ := W1.five
    have b1 := gtrans hal g1
    go_wp2_with fail
    go_ret3
    exact ⟨rfl, b1⟩
  · rcases hD with ⟨hp, rfl, rfl, rfl⟩ | ⟨hp, hD⟩ | ⟨hp, hD⟩ | ⟨hp, hD⟩ | ⟨hp, hD⟩ | ⟨hp, hD⟩ | ⟨hp, hD⟩ | ⟨hp, hD⟩ | ⟨hp, hD⟩
    · have hpb : (b.pid == 0) = true := by rw [hp]; rfl
      have H1 := Lib.hid (H1.out true ⟨fun _ => hm, fun _ => rfl⟩)
      clear hp hm h hr hr' hR x0 x1 x2 x3 x4
      unfold bv
      go_enter Try.func18, Try.ntmps18
      have y := hW.five
      obtain ⟨x0, x1, x2, x3, x4, _⟩ := y
      go_wp2_with fail
      refine H1.out.mono ?_
      rintro e w1 ⟨rfl, g1⟩
      have W1 := hW.keep g1
      clear x0 x1 x2 x3 x4
      obtain ⟨x0, x1, x2, x3, x4, hg1⟩ := W1.five
      have b1 := gtrans hal g1
      go_wp2_with fail
      go_ret3
      exact ⟨rfl, b1⟩
    · obtain ⟨he, rfl, rfl, rfl⟩ := hD
      have f1 : b.epoch < r.e := he
      have hpb : (b.pid == 0) = false := by simp [hp]
      have H1 := Lib.hid (H1.out true ⟨fun _ => hm, fun _ => rfl⟩)
      clear hp he hm h hr hr' hR x0 x1 x2 x3 x4
      unfold bv
      go_enter Try.func18, Try.ntmps18
      have y := hW.five
      obtain ⟨x0, x1, x2, x3, x4, _⟩ := y
      go_wp2_with fail
      refine H1.out.mono ?_
      rintro e w1 ⟨rfl, g1⟩
      have W1 := hW.keep g1
      clear x0 x1 x2 x3 x4
      obtain ⟨x0, x1, x2, x3, x4, hg1⟩ := W1.five
      have b1 := gtrans hal g1
      go_wp2_with fail
      refine (H2.out _ (h'.below g1 hB') (Nat.le_trans hB' g1.size)).mono ?_
      rintro e w2 ⟨rfl, g2⟩
      have hal2 := balloc w2 (.cells #[.int .i64 r.p, .int .i64 r.e, .int .i64 r.s, .int .i64 r.n, .int .i64 r.b] 44)
      have W2 := (W1.keep g2).keep hal2
      clear x0 x1 x2 x3 x4
      obtain ⟨x0, x1, x2, x3, x4, hg2⟩ := W2.five
      have hz2 : w.heap.size < w2.heap.size := Nat.lt_of_lt_of_le hg1 g2.size
      have b2 := gtrans (gtrans b1 g2) hal2
      clear W1 hal hal2
      go_wp2_with fail
      go_ret3
      exact ⟨rfl, b2⟩
    · obtain ⟨he, hs, rfl, rfl, rfl⟩ := hD
      have f1 : ¬ b.epoch < r.e := by omega
      have f2 : r.e < b.epoch := he
      have f3 : 0 < b.seq := hs
      have hpb : (b.pid == 0) = false := by simp [hp]
      have H1 := Lib.hid (H1.out true ⟨fun _ => hm, fun _ => rfl⟩)
      clear hp he hs hm h hr hr' hR x0 x1 x2 x3 x4
      unfold bv
      go_enter Try.func18, Try.ntmps18
      have y := hW.five
      obtain ⟨x0, x1, x2, x3, x4, _⟩ := y
      go_wp2_with fail
      refine H1.out.mono ?_
      rintro e w1 ⟨rfl, g1⟩
      have W1 := hW.keep g1
      clear x0 x1 x2 x3 x4
      obtain ⟨x0, x1, x2, x3, x4, hg1⟩ := W1.five
      have b1 := gtrans hal g1
      go_wp2_with fail
      refine (H2.out _ (h'.below g1 hB') (Nat.le_trans hB' g1.size)).mono ?_
      rintro e w2 ⟨rfl, g2⟩
      have hal2 := balloc w2 (.cells #[.int .i64 r.p, .int .i64 r.e, .int .i64 r.s, .int .i64 r.n, .int .i64 r.b] 44)
      have W2 := (W1.keep g2).keep hal2
      clear x0 x1 x2 x3 x4
      obtain ⟨x0, x1, x2, x3, x4, hg2⟩ := W2.five
      have hz2 : w.heap.size < w2.heap.size := Nat.lt_of_lt_of_le hg1 g2.size
      have b2 := gtrans (gtrans b1 g2) hal2
      clear W1 hal hal2
      go_wp2_with fail
      go_ret3
      exact ⟨rfl, b2⟩
    · obtain ⟨he, hs, rfl, rfl, rfl⟩ := hD
      have f1 : ¬ b.epoch < r.e := by omega
      have f2 : r.e < b.epoch := he
      have f3 : ¬ 0 < b.seq := by omega
      have hpb : (b.pid == 0) = false := by simp [hp]
      have H1 := Lib.hid (H1.out true ⟨fun _ => hm, fun _ => rfl⟩)
      clear hp he hs hm h hr hr' hR x0 x1 x2 x3 x4
      unfold bv
      go_enter Try.func18, Try.ntmps18
      have y := hW.five
      obtain ⟨x0, x1, x2, x3, x4, _⟩ := y
      go_wp2_with fail
      refine H1.out.mono ?_
      rintro e w1 ⟨rfl, g1⟩
      have W1 := hW.keep g1
      clear x0 x1 x2 x3 x4
      obtain ⟨x0, x1, x2, x3, x4, hg1⟩ := W1.five
      have b1 := gtrans hal g1
      go_wp2_with fail
      refine (H2.out _ (h'.below g1 hB') (Nat.le_trans hB' g1.size)).mono ?_
      rintro e w2 ⟨rfl, g2⟩
      have hal2 := balloc w2 (.cells #[.int .i64 r.p, .int .i64 r.e, .int .i64 r.s, .int .i64 r.n, .int .i64 r.b] 44)
      have W2 := (W1.keep g2).keep hal2
      clear x0 x1 x2 x3 x4
      obtain ⟨x0, x1, x2, x3, x4, hg2⟩ := W2.five
      have hz2 : w.heap.size < w2.heap.size := Nat.lt_of_lt_of_le hg1 g2.size
      have b2 := gtrans (gtrans b1 g2) hal2
      clear W1 hal hal2
      go_wp2_with fail
      go_ret3
      exact ⟨rfl, b2⟩
    · obtain ⟨he, hn, hs, rfl, rfl, rfl⟩ := hD
      have f1 : ¬ b.epoch < r.e := by omega
      have f2 : ¬ r.e < b.epoch := by omega
      have f4 : r.n ≤ 0 := hn
      have f3 : 0 < b.seq := hs
      have hpb : (b.pid == 0) = false := by simp [hp]
      have H1 := Lib.hid (H1.out true ⟨fun _ => hm, fun _ => rfl⟩)
      clear hp he hs hn hm h hr hr' hR x0 x1 x2 x3 x4
      unfold bv
      go_enter Try.func18, Try.ntmps18
      have y := hW.five
      obtain ⟨x0, x1, x2, x3, x4, _⟩ := y
      go_wp2_with fail
      refine H1.out.mono ?_
      rintro e w1 ⟨rfl, g1⟩
      have W1 := hW.keep g1
      clear x0 x1 x2 x3 x4
      obtain ⟨x0, x1, x2, x3, x4, hg1⟩ := W1.five
      have b1 := gtrans hal g1
      go_wp2_with fail
      refine (H2.out _ (h'.below g1 hB') (Nat.le_trans hB' g1.size)).mono ?_
      rintro e w2 ⟨rfl, g2⟩
      have hal2 := balloc w2 (.cells #[.int .i64 r.p, .int .i64 r.e, .int .i64 r.s, .int .i64 r.n, .int .i64 r.b] 44)
      have W2 := (W1.keep g2).keep hal2
      clear x0 x1 x2 x3 x4
      obtain ⟨x0, x1, x2, x3, x4, hg2⟩ := W2.five
      have hz2 : w.heap.size < w2.heap.size := Nat.lt_of_lt_of_le hg1 g2.size
      have b2 := gtrans (gtrans b1 g2) hal2
      clear W1 hal hal2
      go_wp2_with fail
      go_ret3
      exact ⟨rfl, b2⟩
    · obtain ⟨he, hn, hs, rfl, rfl, rfl⟩ := hD
      have f1 : ¬ b.epoch < r.e := by omega
      have f2 : ¬ r.e < b.epoch := by omega
      have f4 : r.n ≤ 0 := hn
      have f3 : ¬ 0 < b.seq := by omega
      have hpb : (b.pid == 0) = false := by simp [hp]
      have H1 := Lib.hid (H1.out true ⟨fun _ => hm, fun _ => rfl⟩)
      clear hp he hs hn hm h hr hr' hR x0 x1 x2 x3 x4
      unfold bv
      go_enter Try.func18, Try.ntmps18
      have y := hW.five
      obtain ⟨x0, x1, x2, x3, x4, _⟩ := y
      go_wp2_with fail
      refine H1.out.mono ?_
      rintro e w1 ⟨rfl, g1⟩
      have W1 := hW.keep g1
      clear x0 x1 x2 x3 x4
      obtain ⟨x0, x1, x2, x3, x4, hg1⟩ := W1.five
      have b1 := gtrans hal g1
      go_wp2_with fail
      refine (H2.out _ (h'.below g1 hB') (Nat.le_trans hB' g1.size)).mono ?_
      rintro e w2 ⟨rfl, g2⟩
      have hal2 := balloc w2 (.cells #[.int .i64 r.p, .int .i64 r.e, .int .i64 r.s, .int .i64 r.n, .int .i64 r.b] 44)
      have W2 := (W1.keep g2).keep hal2
      clear x0 x1 x2 x3 x4
      obtain ⟨x0, x1, x2, x3, x4, hg2⟩ := W2.five
      have hz2 : w.heap.size < w2.heap.size := Nat.lt_of_lt_of_le hg1 g2.size
      have b2 := gtrans (gtrans b1 g2) hal2
      clear W1 hal hal2
      go_wp2_with fail
      go_ret3
      exact ⟨rfl, b2⟩
    · obtain ⟨he, hn, ⟨hs, hl⟩, rfl, rfl, rfl⟩ := hD
      have f1 : ¬ b.epoch < r.e := by omega
      have f2 : ¬ r.e < b.epoch := by omega
      have f4 : ¬ r.n ≤ 0 := by omega
      have f5 : (b.seq == r.s) = true := by rw [hs]; exact beq_self_eq_true _
      have f6 : ((b.l.length : Int) == r.n) = true := by rw [hl]; exact beq_self_eq_true _
      have hpb : (b.pid == 0) = false := by simp [hp]
      have H1 := Lib.hid (H1.out true ⟨fun _ => hm, fun _ => rfl⟩)
      clear hp he hs hl hn hm h hr hr' hR x0 x1 x2 x3 x4
      unfold bv
      go_enter Try.func18, Try.ntmps18
      have y := hW.five
      obtain ⟨x0, x1, x2, x3, x4, _⟩ := y
      go_wp2_with fail
      refine H1.out.mono ?_
      rintro e w1 ⟨rfl, g1⟩
      have W1 := hW.keep g1
      clear x0 x1 x2 x3 x4
      obtain ⟨x0, x1, x2, x3, x4, hg1⟩ := W1.five
      have b1 := gtrans hal g1
      go_wp2_with fail
      refine (H2.out _ (h'.below g1 hB') (Nat.le_trans hB' g1.size)).mono ?_
      rintro e w2 ⟨rfl, g2⟩
      have hal2 := balloc w2 (.cells #[.int .i64 r.p, .int .i64 r.e, .int .i64 r.s, .int .i64 r.n, .int .i64 r.b] 44)
      have W2 := (W1.keep g2).keep hal2
      clear x0 x1 x2 x3 x4
      obtain ⟨x0, x1, x2, x3, x4, hg2⟩ := W2.five
      have hz2 : w.heap.size < w2.heap.size := Nat.lt_of_lt_of_le hg1 g2.size
      have b2 := gtrans (gtrans b1 g2) hal2
      clear W1 hal hal2
      go_wp2_with fail
      go_ret3
      exact ⟨rfl, b2⟩
    · obtain ⟨he, hn, hs, hw, rfl, rfl, rfl⟩ := hD
      have f1 : ¬ b.epoch < r.e := by omega
      have f2 : ¬ r.e < b.epoch := by omega
      have f4 : ¬ r.n ≤ 0 := by omega
      have f7 : (wrap64 (b.seq - r.n) != r.s) = true := by simp only [bne_iff_ne]; intro h; exact hw ((wrap_sub64 _ _ _ hbw.s hrw.1 hrw.2).1 h)
      have hs2 : ((b.seq == r.s) = false ∧ True) ∨ ((b.seq == r.s) = true ∧ ((b.l.length : Int) == r.n) = false) := by
        by_cases h1 : b.seq = r.s
        · exact .inr ⟨by simp [h1], by simp; exact fun h2 => hs ⟨h1, h2⟩⟩
        · exact .inl ⟨by simp [h1], trivial⟩
      have hpb : (b.pid == 0) = false := by simp [hp]
      have H1 := Lib.hid (H1.out true ⟨fun _ => hm, fun _ => rfl⟩)
      clear hp he hs hw hn hm h hr hr' hR x0 x1 x2 x3 x4
      unfold bv
      go_enter Try.func18, Try.ntmps18
      have y := hW.five
      obtain ⟨x0, x1, x2, x3, x4, _⟩ := y
      go_wp2_with fail
      refine H1.out.mono ?_
      rintro e w1 ⟨rfl, g1⟩
      have W1 := hW.keep g1
      clear x0 x1 x2 x3 x4
      obtain ⟨x0, x1, x2, x3, x4, hg1⟩ := W1.five
      have b1 := gtrans hal g1
      go_wp2_with fail
      refine (H2.out _ (h'.below g1 hB') (Nat.le_trans hB' g1.size)).mono ?_
      rintro e w2 ⟨rfl, g2⟩
      have hal2 := balloc w2 (.cells #[.int .i64 r.p, .int .i64 r.e, .int .i64 r.s, .int .i64 r.n, .int .i64 r.b] 44)
      have W2 := (W1.keep g2).keep hal2
      clear x0 x1 x2 x3 x4
      obtain ⟨x0, x1, x2, x3, x4, hg2⟩ := W2.five
      have hz2 : w.heap.size < w2.heap.size := Nat.lt_of_lt_of_le hg1 g2.size
      have b2 := gtrans (gtrans b1 g2) hal2
      clear W1 hal hal2
      rcases hs2 with ⟨f5, _⟩ | ⟨f5, f6⟩
      all_goals
        go_wp2_with fail
        go_ret3
        exact ⟨rfl, b2⟩
    · obtain ⟨he, hn, hs, hw, rfl, rfl, rfl⟩ := hD
      have f1 : ¬ b.epoch < r.e := by omega
      have f2 : ¬ r.e < b.epoch := by omega
      have f4 : ¬ r.n ≤ 0 := by omega
      have f7 : (wrap64 (b.seq - r.n) != r.s) = false := by simp only [bne_eq_false_iff_eq]; exact (wrap_sub64 _ _ _ hbw.s hrw.1 hrw.2).2 hw
      have hs2 : ((b.seq == r.s) = false ∧ True) ∨ ((b.seq == r.s) = true ∧ ((b.l.length : Int) == r.n) = false) := by
        by_cases h1 : b.seq = r.s
        · exact .inr ⟨by simp [h1], by simp; exact fun h2 => hs ⟨h1, h2⟩⟩
        · exact .inl ⟨by simp [h1], trivial⟩
      have hpb : (b.pid == 0) = false := by simp [hp]
      have H1 := Lib.hid (H1.out true ⟨fun _ => hm, fun _ => rfl⟩)
      clear hp he hs hw hn hm h hr hr' hR x0 x1 x2 x3 x4
      unfold bv
      go_enter Try.func18, Try.ntmps18
      have y := hW.five
      obtain ⟨x0, x1, x2, x3, x4, _⟩ := y
      go_wp2_with fail
      refine H1.out.mono ?_
      rintro e w1 ⟨rfl, g1⟩
      have W1 := hW.keep g1
      clear x0 x1 x2 x3 x4
      obtain ⟨x0, x1, x2, x3, x4, hg1⟩ := W1.five
      have b1 := gtrans hal g1
      go_wp2_with fail
      refine (H2.out _ (h'.below g1 hB') (Nat.le_trans hB' g1.size)).mono ?_
      rintro e w2 ⟨rfl, g2⟩
      have hal2 := balloc w2 (.cells #[.int .i64 r.p, .int .i64 r.e, .int .i64 r.s, .int .i64 r.n, .int .i64 r.b] 44)
      have W2 := (W1.keep g2).keep hal2
      clear x0 x1 x2 x3 x4
      obtain ⟨x0, x1, x2, x3, x4, hg2⟩ := W2.five
      have hz2 : w.heap.size < w2.heap.size := Nat.lt_of_lt_of_le hg1 g2.size
      have b2 := gtrans (gtrans b1 g2) hal2
      clear W1 hal hal2
      rcases hs2 with ⟨f5, _⟩ | ⟨f5, f6⟩
      all_goals
        go_wp2_with fail
        go_ret3
        exact ⟨rfl, b2⟩
end Go.Proofs.Ytfjnmjibifefgaa
