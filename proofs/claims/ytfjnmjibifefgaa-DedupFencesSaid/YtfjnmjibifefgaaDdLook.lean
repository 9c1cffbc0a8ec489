/- The walk of dedup.Look (written by gen/dlook07.py). -/
import Derived.Test.YtfjnmjibifefgaaDdRLook
import Derived.Deep.Cut
namespace Go.Proofs.Ytfjnmjibifefgaa
open Go.RowKit Vm Bm
set_option linter.unusedVariables false
set_option linter.unusedSimpArgs false

theorem st5 {w : World} {A : Nat} {t : TypeId} {a b c d e : Value} (h : Whole w A t #[a, b, c, d, e]) (x0 x1 x2 x3 x4 : Value) :
    Whole (((((w.setCell ⟨A, 0, none⟩ x0).setCell ⟨A, 1, none⟩ x1).setCell ⟨A, 2, none⟩ x2).setCell ⟨A, 3, none⟩ x3).setCell ⟨A, 4, none⟩ x4) A t #[x0, x1, x2, x3, x4] ∧
    Below A w (((((w.setCell ⟨A, 0, none⟩ x0).setCell ⟨A, 1, none⟩ x1).setCell ⟨A, 2, none⟩ x2).setCell ⟨A, 3, none⟩ x3).setCell ⟨A, 4, none⟩ x4) := by
  refine ⟨?_, (((((Below.refl A w).setCell (p := ⟨A, 0, none⟩) (Nat.le_refl _) x0).setCell (p := ⟨A, 1, none⟩) (Nat.le_refl _) x1).setCell (p := ⟨A, 2, none⟩) (Nat.le_refl _) x2).setCell (p := ⟨A, 3, none⟩) (Nat.le_refl _) x3).setCell (p := ⟨A, 4, none⟩) (Nat.le_refl _) x4⟩
  have h3 := ((((h.set 0 x0).set 1 x1).set 2 x2).set 3 x3).set 4 x4
  simpa using h3
theorem Whole.five5 {w : World} {g : Nat} {t : TypeId} {a b c d e : Value} (h : Whole w g t #[a, b, c, d, e]) :
    (w.cell? ⟨g, 0, none⟩ = some a ∧ w.cell? ⟨g, 1, none⟩ = some b ∧ w.cell? ⟨g, 2, none⟩ = some c ∧ w.cell? ⟨g, 3, none⟩ = some d ∧ w.cell? ⟨g, 4, none⟩ = some e) ∧
    (w.frozen? ⟨g, 0, none⟩ = false ∧ w.frozen? ⟨g, 1, none⟩ = false ∧ w.frozen? ⟨g, 2, none⟩ = false ∧ w.frozen? ⟨g, 3, none⟩ = false ∧ w.frozen? ⟨g, 4, none⟩ = false) :=
  ⟨⟨h.cell 0, h.cell 1, h.cell 2, h.cell 3, h.cell 4⟩, h.frozen 0, h.frozen 1, h.frozen 2, h.frozen 3, h.frozen 4⟩
set_option maxRecDepth 100000 in
set_option maxHeartbeats 8000000 in
theorem dlook_walk (l : List Pr) (N : Nat) (a : Option Addr) (c B : Nat) (b : Bat) (ab : Option Addr) (cb : Nat) (w : World) (r : Pr) (n : Int) (d : Bool) (E : Int) (EE : Bool) (hN : l.length = N) (hNm : N ≤ 2000) (hbl : b.l.length ≤ maxLen) (hbw : BatWf b) (hrw : I64 r.s ∧ I64 r.n) (hR : RowP l b.pid r EE) (hD : DlIs b r n d E) (h : Sl w B a (prCells l)) (hr : Sl w B ab (recCells b.l)) (hB : B ≤ w.heap.size) :
    Calls Try.prog 17 #[.slice a N c, bv b ab cb] w (LkPost w n d E) := by
  have hal := balloc w (.cells (bvc b ab cb) 25)
  have hW := Whole.new w 25 (bvc b ab cb)
  have h' := h.below hal hB
  have hr' := hr.below hal hB
  have hB' := Nat.le_trans hB hal.size
  have hK : ∃ K, (MayB b ∧ K = 0) ∨ (¬ MayB b ∧ K = 1) := by
    by_cases hm : MayB b
    · exact ⟨0, .inl ⟨hm, rfl⟩⟩
    · exact ⟨1, .inr ⟨hm, rfl⟩⟩
  have H1 := Lib.hid (fun K hK => bcheck_walk b ab cb B (w.alloc (.cells (bvc b ab cb) 25)) K hK hr' hB')
  have H2 := Lib.hid (fun w1 (h1 : Sl w1 B a (prCells l)) (hB1 : B ≤ w1.heap.size) => dfind_walk l N a c B b.pid w1 hN hNm h1 hB1)
  unfold IxfPost at H2
  have HR := Lib.hid hR
  have HNe := Lib.hid hN
  clear hK hR hN
  rcases hD with ⟨hm, rfl, rfl, rfl⟩ | ⟨hm, hk, rfl, rfl, rfl⟩ | ⟨⟨hm, hk, hq⟩, hD⟩
  rotate_left 2
  rcases hD with ⟨hp, rfl, rfl, rfl⟩ | ⟨hp, hD⟩ | ⟨hp, hD⟩ | ⟨hp, hD⟩ | ⟨hp, hD⟩ | ⟨hp, hD⟩ | ⟨hp, hD⟩ | ⟨hp, hD⟩ | ⟨hp, hD⟩
  · have H1 := Lib.hid (H1.out 0 (.inl ⟨hm, rfl⟩))
    have hpb : (b.pid == 0) = true := by rw [hp]; rfl
    clear hp hm h hr hr'
    unfold bv
    go_enter Try.func17, Try.ntmps17
    have y := hW.five
    obtain ⟨x0, x1, x2, x3, x4, _⟩ := y
    go_wp2_with fail
    refine H1.out.mono ?_
    rintro e w1 ⟨rfl, g1⟩
    have W1 := hW.keep g1
    clear x0 x1 x2 x3 x4
    obtain ⟨x0, x1, x2, x3, x4, hg1⟩ := W1.five
    have b1 := gtrans hal g1
    go_wp2_with fail
    go_ret3
    exact ⟨rfl, b1⟩
  · obtain ⟨he, rfl, rfl, rfl⟩ := hD
    have hpb : (b.pid == 0) = false := by simp [hp]
    have f1 : b.epoch < r.e := he
    have H1 := Lib.hid (H1.out 0 (.inl ⟨hm, rfl⟩))
    clear hp he hm hr hr' h
    unfold bv
    go_enter Try.func17, Try.ntmps17
    have y := hW.five
    obtain ⟨x0, x1, x2, x3, x4, _⟩ := y
    go_wp2_with fail
    refine H1.out.mono ?_
    rintro e w1 ⟨rfl, g1⟩
    have W1 := hW.keep g1
    clear x0 x1 x2 x3 x4
    obtain ⟨x0, x1, x2, x3, x4, hg1⟩ := W1.five
    have b1 := gtrans hal g1
    have hz := balloc w1 (.cells #[.int .i64 0, .int .i64 0, .int .i64 0, .int .i64 0, .int .i64 0] 44)
    have Z1 := Whole.new w1 44 #[.int .i64 0, .int .i64 0, .int .i64 0, .int .i64 0, .int .i64 0]
    have W1z := W1.keep hz
    obtain ⟨y0, y1, y2, y3, y4, hg2⟩ := W1z.five
    have h1 := (h'.below g1 hB').below hz (Nat.le_trans hB' g1.size)
    have hz1 : w1.heap.size < (w1.alloc (.cells #[.int .i64 0, .int .i64 0, .int .i64 0, .int .i64 0, .int .i64 0] 44)).heap.size := Z1.lt
    go_wp2_with fail
    refine (H2.out _ h1 (Nat.le_trans (Nat.le_trans hB' g1.size) hz.size)).mono ?_
    have key : ∀ w3 p0, Whole w3 w.heap.size 25 (bvc b ab cb) → Whole w3 w1.heap.size 44 #[.int .i64 p0, .int .i64 r.e, .int .i64 r.s, .int .i64 r.n, .int .i64 r.b] → Below w.heap.size w w3 → True := fun _ _ _ _ _ => trivial
    clear key
    rintro e w2 (⟨k, hk, HL, HE, rfl, g2⟩ | ⟨HL, rfl, g2⟩)
    · have hrr : l.getD k pr0 = r := by
        have hg := getR_hit prKey pr0 HL.out (by rw [HNe.out]; exact hk) HE.out
        rcases HR.out with ⟨h1, _⟩ | ⟨h1, _⟩
        · rw [hg] at h1; injection h1
        · rw [hg] at h1; cases h1
      obtain ⟨b1', o1, rfl, hb1, hc⟩ := (h1.below g2 (Nat.le_trans (Nat.le_trans hB' g1.size) hz.size)).pr (by rw [HNe.out]; omega)
      obtain ⟨r0, r1, r2, r3, r4⟩ := hc k (by rw [HNe.out]; exact hk)
      rw [hrr] at r0 r1 r2 r3 r4
      have hk2 : k < N := hk
      have Z2 := Z1.keep g2
      obtain ⟨⟨z0, z1, z2, z3, z4⟩, e0, e1, e2, e3, e4⟩ := Z2.five5
      obtain ⟨Z3, s3⟩ := st5 Z2 (.int .i64 r.p) (.int .i64 r.e) (.int .i64 r.s) (.int .i64 r.n) (.int .i64 r.b)
      have W3 := W1z.keep g2
      have b3 := gtrans (gtrans b1 hz) g2
      have hlt1 : w.heap.size < w1.heap.size := hg1
      obtain ⟨w3, hw3⟩ : ∃ w3, w3 = (((((w2.setCell ⟨w1.heap.size, 0, none⟩ (.int .i64 r.p)).setCell ⟨w1.heap.size, 1, none⟩ (.int .i64 r.e)).setCell ⟨w1.heap.size, 2, none⟩ (.int .i64 r.s)).setCell ⟨w1.heap.size, 3, none⟩ (.int .i64 r.n)).setCell ⟨w1.heap.size, 4, none⟩ (.int .i64 r.b)) := ⟨_, rfl⟩
      have W3 : Whole w3 w.heap.size 25 (bvc b ab cb) := by
        rw [hw3]; exact ((((W3.far _ 0 _ (by omega)).far _ 1 _ (by omega)).far _ 2 _ (by omega)).far _ 3 _ (by omega)).far _ 4 _ (by omega)
      rw [← hw3] at Z3 s3
      have b3 := b3.trans (s3.mono (by omega))
      have HW3 := Lib.hid hw3
      have hz2 : w1.heap.size < w2.heap.size := Nat.lt_of_lt_of_le hz1 g2.size
      clear hw3 hc hrr h1 h' Z2 hz hk s3 HL HE g2 g1 hal HR H1 W1 W1z Z1 hW x0 x1 x2 x3 x4 y0 y1 y2 y3 y4
      go_upto_region 9 with fail
      rw [← HW3.out]
      clear z0 z1 z2 z3 z4 e0 e1 e2 e3 e4 r0 r1 r2 r3 r4 HW3
      obtain ⟨x0, x1, x2, x3, x4, _⟩ := W3.five
      obtain ⟨⟨z0, z1, z2, z3, z4⟩, e0, e1, e2, e3, e4⟩ := Z3.five5
      go_wp2_with fail
      go_ret3
      exact ⟨rfl, b3⟩
    · have hre : r = ⟨b.pid, 0, 0, 0, 0⟩ := by
        rcases HR.out with ⟨h1, _⟩ | ⟨_, h1, _⟩
        · have hm := getR_miss prKey pr0 (fun p hp => HL.out p (by rw [← HNe.out]; exact hp))
          rw [hm] at h1; cases h1
        · exact h1
      have W3 := W1z.keep g2
      have b3 := gtrans (gtrans b1 hz) g2
      have Z3 : Whole w2 w1.heap.size 44 #[.int .i64 0, .int .i64 r.e, .int .i64 r.s, .int .i64 r.n, .int .i64 r.b] := by rw [hre]; exact Z1.keep g2
      clear hre h1 h' hz g2 g1 hal HR H1 W1 W1z Z1 hW x0 x1 x2 x3 x4 y0 y1 y2 y3 y4 HL
      go_upto_region 9 with fail
      obtain ⟨x0, x1, x2, x3, x4, _⟩ := W3.five
      obtain ⟨⟨z0, z1, z2, z3, z4⟩, e0, e1, e2, e3, e4⟩ := Z3.five5
      go_wp2_with fail
      go_ret3
      exact ⟨rfl, b3⟩
  · obtain ⟨he, hs, rfl, rfl, rfl⟩ := hD
    have hpb : (b.pid == 0) = false := by simp [hp]
    have f1 : ¬ b.epoch < r.e := by omega
    have f2 : r.e < b.epoch := he
    have f3 : (b.seq != 0) = true := by simp; omega
    have H1 := Lib.hid (H1.out 0 (.inl ⟨hm, rfl⟩))
    clear hp he hs hm hr hr' h
    unfold bv
    go_enter Try.func17, Try.ntmps17
    have y := hW.five
    obtain ⟨x0, x1, x2, x3, x4, _⟩ := y
    go_wp2_with fail
    refine H1.out.mono ?_
    rintro e w1 ⟨rfl, g1⟩
    have W1 := hW.keep g1
    clear x0 x1 x2 x3 x4
    obtain ⟨x0, x1, x2, x3, x4, hg1⟩ := W1.five
    have b1 := gtrans hal g1
    have hz := balloc w1 (.cells #[.int .i64 0, .int .i64 0, .int .i64 0, .int .i64 0, .int .i64 0] 44)
    have Z1 := Whole.new w1 44 #[.int .i64 0, .int .i64 0, .int .i64 0, .int .i64 0, .int .i64 0]
    have W1z := W1.keep hz
    obtain ⟨y0, y1, y2, y3, y4, hg2⟩ := W1z.five
    have h1 := (h'.below g1 hB').below hz (Nat.le_trans hB' g1.size)
    have hz1 : w1.heap.size < (w1.alloc (.cells #[.int .i64 0, .int .i64 0, .int .i64 0, .int .i64 0, .int .i64 0] 44)).heap.size := Z1.lt
    go_wp2_with fail
    refine (H2.out _ h1 (Nat.le_trans (Nat.le_trans hB' g1.size) hz.size)).mono ?_
    have key : ∀ w3 p0, Whole w3 w.heap.size 25 (bvc b ab cb) → Whole w3 w1.heap.size 44 #[.int .i64 p0, .int .i64 r.e, .int .i64 r.s, .int .i64 r.n, .int .i64 r.b] → Below w.heap.size w w3 → True := fun _ _ _ _ _ => trivial
    clear key
    rintro e w2 (⟨k, hk, HL, HE, rfl, g2⟩ | ⟨HL, rfl, g2⟩)
    · have hrr : l.getD k pr0 = r := by
        have hg := getR_hit prKey pr0 HL.out (by rw [HNe.out]; exact hk) HE.out
        rcases HR.out with ⟨h1, _⟩ | ⟨h1, _⟩
        · rw [hg] at h1; injection h1
        · rw [hg] at h1; cases h1
      obtain ⟨b1', o1, rfl, hb1, hc⟩ := (h1.below g2 (Nat.le_trans (Nat.le_trans hB' g1.size) hz.size)).pr (by rw [HNe.out]; omega)
      obtain ⟨r0, r1, r2, r3, r4⟩ := hc k (by rw [HNe.out]; exact hk)
      rw [hrr] at r0 r1 r2 r3 r4
      have hk2 : k < N := hk
      have Z2 := Z1.keep g2
      obtain ⟨⟨z0, z1, z2, z3, z4⟩, e0, e1, e2, e3, e4⟩ := Z2.five5
      obtain ⟨Z3, s3⟩ := st5 Z2 (.int .i64 r.p) (.int .i64 r.e) (.int .i64 r.s) (.int .i64 r.n) (.int .i64 r.b)
      have W3 := W1z.keep g2
      have b3 := gtrans (gtrans b1 hz) g2
      have hlt1 : w.heap.size < w1.heap.size := hg1
      obtain ⟨w3, hw3⟩ : ∃ w3, w3 = (((((w2.setCell ⟨w1.heap.size, 0, none⟩ (.int .i64 r.p)).setCell ⟨w1.heap.size, 1, none⟩ (.int .i64 r.e)).setCell ⟨w1.heap.size, 2, none⟩ (.int .i64 r.s)).setCell ⟨w1.heap.size, 3, none⟩ (.int .i64 r.n)).setCell ⟨w1.heap.size, 4, none⟩ (.int .i64 r.b)) := ⟨_, rfl⟩
      have W3 : Whole w3 w.heap.size 25 (bvc b ab cb) := by
        rw [hw3]; exact ((((W3.far _ 0 _ (by omega)).far _ 1 _ (by omega)).far _ 2 _ (by omega)).far _ 3 _ (by omega)).far _ 4 _ (by omega)
      rw [← hw3] at Z3 s3
      have b3 := b3.trans (s3.mono (by omega))
      have HW3 := Lib.hid hw3
      have hz2 : w1.heap.size < w2.heap.size := Nat.lt_of_lt_of_le hz1 g2.size
      clear hw3 hc hrr h1 h' Z2 hz hk s3 HL HE g2 g1 hal HR H1 W1 W1z Z1 hW x0 x1 x2 x3 x4 y0 y1 y2 y3 y4
      go_upto_region 9 with fail
      rw [← HW3.out]
      clear z0 z1 z2 z3 z4 e0 e1 e2 e3 e4 r0 r1 r2 r3 r4 HW3
      obtain ⟨x0, x1, x2, x3, x4, _⟩ := W3.five
      obtain ⟨⟨z0, z1, z2, z3, z4⟩, e0, e1, e2, e3, e4⟩ := Z3.five5
      have hlt2 : w.heap.size < w1.heap.size := hg1
      obtain ⟨Z4, s4⟩ := st5 Z3 (.int .i64 0) (.int .i64 0) (.int .i64 0) (.int .i64 0) (.int .i64 0)
      obtain ⟨w4, hw4⟩ : ∃ w4, w4 = (((((w3.setCell ⟨w1.heap.size, 0, none⟩ (.int .i64 0)).setCell ⟨w1.heap.size, 1, none⟩ (.int .i64 0)).setCell ⟨w1.heap.size, 2, none⟩ (.int .i64 0)).setCell ⟨w1.heap.size, 3, none⟩ (.int .i64 0)).setCell ⟨w1.heap.size, 4, none⟩ (.int .i64 0)) := ⟨_, rfl⟩
      have W4 : Whole w4 w.heap.size 25 (bvc b ab cb) := by
        rw [hw4]; exact ((((W3.far _ 0 _ (by omega)).far _ 1 _ (by omega)).far _ 2 _ (by omega)).far _ 3 _ (by omega)).far _ 4 _ (by omega)
      rw [← hw4] at Z4 s4
      have b4 := b3.trans (s4.mono (by omega))
      have HW4 := Lib.hid hw4
      clear hw4 s4
      go_upto_region 13 with fail
      rw [← HW4.out]
      clear x0 x1 x2 x3 x4 z0 z1 z2 z3 z4 e0 e1 e2 e3 e4 HW4
      obtain ⟨x0, x1, x2, x3, x4, _⟩ := W4.five
      obtain ⟨⟨z0, z1, z2, z3, z4⟩, e0, e1, e2, e3, e4⟩ := Z4.five5
      go_wp2_with fail
      go_ret3
      exact ⟨rfl, b4⟩
    · have hre : r = ⟨b.pid, 0, 0, 0, 0⟩ := by
        rcases HR.out with ⟨h1, _⟩ | ⟨_, h1, _⟩
        · have hm := getR_miss prKey pr0 (fun p hp => HL.out p (by rw [← HNe.out]; exact hp))
          rw [hm] at h1; cases h1
        · exact h1
      have W3 := W1z.keep g2
      have b3 := gtrans (gtrans b1 hz) g2
      have Z3 : Whole w2 w1.heap.size 44 #[.int .i64 0, .int .i64 r.e, .int .i64 r.s, .int .i64 r.n, .int .i64 r.b] := by rw [hre]; exact Z1.keep g2
      clear hre h1 h' hz g2 g1 hal HR H1 W1 W1z Z1 hW x0 x1 x2 x3 x4 y0 y1 y2 y3 y4 HL
      go_upto_region 9 with fail
      obtain ⟨x0, x1, x2, x3, x4, _⟩ := W3.five
      obtain ⟨⟨z0, z1, z2, z3, z4⟩, e0, e1, e2, e3, e4⟩ := Z3.five5
      have hlt2 : w.heap.size < w1.heap.size := hg1
      obtain ⟨Z4, s4⟩ := st5 Z3 (.int .i64 0) (.int .i64 0) (.int .i64 0) (.int .i64 0) (.int .i64 0)
      obtain ⟨w4, hw4⟩ : ∃ w4, w4 = (((((w2.setCell ⟨w1.heap.size, 0, none⟩ (.int .i64 0)).setCell ⟨w1.heap.size, 1, none⟩ (.int .i64 0)).setCell ⟨w1.heap.size, 2, none⟩ (.int .i64 0)).setCell ⟨w1.heap.size, 3, none⟩ (.int .i64 0)).setCell ⟨w1.heap.size, 4, none⟩ (.int .i64 0)) := ⟨_, rfl⟩
      have W4 : Whole w4 w.heap.size 25 (bvc b ab cb) := by
        rw [hw4]; exact ((((W3.far _ 0 _ (by omega)).far _ 1 _ (by omega)).far _ 2 _ (by omega)).far _ 3 _ (by omega)).far _ 4 _ (by omega)
      rw [← hw4] at Z4 s4
      have b4 := b3.trans (s4.mono (by omega))
      have HW4 := Lib.hid hw4
      clear hw4 s4
      go_upto_region 13 with fail
      rw [← HW4.out]
      clear x0 x1 x2 x3 x4 z0 z1 z2 z3 z4 e0 e1 e2 e3 e4 HW4
      obtain ⟨x0, x1, x2, x3, x4, _⟩ := W4.five
      obtain ⟨⟨z0, z1, z2, z3, z4⟩, e0, e1, e2, e3, e4⟩ := Z4.five5
      go_wp2_with fail
      go_ret3
      exact ⟨rfl, b4⟩
  · obtain ⟨he, hs, rfl, rfl, rfl⟩ := hD
    have hpb : (b.pid == 0) = false := by simp [hp]
    have f1 : ¬ b.epoch < r.e := by omega
    have f2 : r.e < b.epoch := he
    have f3 : (b.seq != 0) = false := by simp; omega
    have H1 := Lib.hid (H1.out 0 (.inl ⟨hm, rfl⟩))
    clear hp he hs hm hr hr' h
    unfold bv
    go_enter Try.func17, Try.ntmps17
    have y := hW.five
    obtain ⟨x0, x1, x2, x3, x4, _⟩ := y
    go_wp2_with fail
    refine H1.out.mono ?_
    rintro e w1 ⟨rfl, g1⟩
    have W1 := hW.keep g1
    clear x0 x1 x2 x3 x4
    obtain ⟨x0, x1, x2, x3, x4, hg1⟩ := W1.five
    have b1 := gtrans hal g1
    have hz := balloc w1 (.cells #[.int .i64 0, .int .i64 0, .int .i64 0, .int .i64 0, .int .i64 0] 44)
    have Z1 := Whole.new w1 44 #[.int .i64 0, .int .i64 0, .int .i64 0, .int .i64 0, .int .i64 0]
    have W1z := W1.keep hz
    obtain ⟨y0, y1, y2, y3, y4, hg2⟩ := W1z.five
    have h1 := (h'.below g1 hB').below hz (Nat.le_trans hB' g1.size)
    have hz1 : w1.heap.size < (w1.alloc (.cells #[.int .i64 0, .int .i64 0, .int .i64 0, .int .i64 0, .int .i64 0] 44)).heap.size := Z1.lt
    go_wp2_with fail
    refine (H2.out _ h1 (Nat.le_trans (Nat.le_trans hB' g1.size) hz.size)).mono ?_
    have key : ∀ w3 p0, Whole w3 w.heap.size 25 (bvc b ab cb) → Whole w3 w1.heap.size 44 #[.int .i64 p0, .int .i64 r.e, .int .i64 r.s, .int .i64 r.n, .int .i64 r.b] → Below w.heap.size w w3 → True := fun _ _ _ _ _ => trivial
    clear key
    rintro e w2 (⟨k, hk, HL, HE, rfl, g2⟩ | ⟨HL, rfl, g2⟩)
    · have hrr : l.getD k pr0 = r := by
        have hg := getR_hit prKey pr0 HL.out (by rw [HNe.out]; exact hk) HE.out
        rcases HR.out with ⟨h1, _⟩ | ⟨h1, _⟩
        · rw [hg] at h1; injection h1
        · rw [hg] at h1; cases h1
      obtain ⟨b1', o1, rfl, hb1, hc⟩ := (h1.below g2 (Nat.le_trans (Nat.le_trans hB' g1.size) hz.size)).pr (by rw [HNe.out]; omega)
      obtain ⟨r0, r1, r2, r3, r4⟩ := hc k (by rw [HNe.out]; exact hk)
      rw [hrr] at r0 r1 r2 r3 r4
      have hk2 : k < N := hk
      have Z2 := Z1.keep g2
      obtain ⟨⟨z0, z1, z2, z3, z4⟩, e0, e1, e2, e3, e4⟩ := Z2.five5
      obtain ⟨Z3, s3⟩ := st5 Z2 (.int .i64 r.p) (.int .i64 r.e) (.int .i64 r.s) (.int .i64 r.n) (.int .i64 r.b)
      have W3 := W1z.keep g2
      have b3 := gtrans (gtrans b1 hz) g2
      have hlt1 : w.heap.size < w1.heap.size := hg1
      obtain ⟨w3, hw3⟩ : ∃ w3, w3 = (((((w2.setCell ⟨w1.heap.size, 0, none⟩ (.int .i64 r.p)).setCell ⟨w1.heap.size, 1, none⟩ (.int .i64 r.e)).setCell ⟨w1.heap.size, 2, none⟩ (.int .i64 r.s)).setCell ⟨w1.heap.size, 3, none⟩ (.int .i64 r.n)).setCell ⟨w1.heap.size, 4, none⟩ (.int .i64 r.b)) := ⟨_, rfl⟩
      have W3 : Whole w3 w.heap.size 25 (bvc b ab cb) := by
        rw [hw3]; exact ((((W3.far _ 0 _ (by omega)).far _ 1 _ (by omega)).far _ 2 _ (by omega)).far _ 3 _ (by omega)).far _ 4 _ (by omega)
      rw [← hw3] at Z3 s3
      have b3 := b3.trans (s3.mono (by omega))
      have HW3 := Lib.hid hw3
      have hz2 : w1.heap.size < w2.heap.size := Nat.lt_of_lt_of_le hz1 g2.size
      clear hw3 hc hrr h1 h' Z2 hz hk s3 HL HE g2 g1 hal HR H1 W1 W1z Z1 hW x0 x1 x2 x3 x4 y0 y1 y2 y3 y4
      go_upto_region 9 with fail
      rw [← HW3.out]
      clear z0 z1 z2 z3 z4 e0 e1 e2 e3 e4 r0 r1 r2 r3 r4 HW3
      obtain ⟨x0, x1, x2, x3, x4, _⟩ := W3.five
      obtain ⟨⟨z0, z1, z2, z3, z4⟩, e0, e1, e2, e3, e4⟩ := Z3.five5
      have hlt2 : w.heap.size < w1.heap.size := hg1
      obtain ⟨Z4, s4⟩ := st5 Z3 (.int .i64 0) (.int .i64 0) (.int .i64 0) (.int .i64 0) (.int .i64 0)
      obtain ⟨w4, hw4⟩ : ∃ w4, w4 = (((((w3.setCell ⟨w1.heap.size, 0, none⟩ (.int .i64 0)).setCell ⟨w1.heap.size, 1, none⟩ (.int .i64 0)).setCell ⟨w1.heap.size, 2, none⟩ (.int .i64 0)).setCell ⟨w1.heap.size, 3, none⟩ (.int .i64 0)).setCell ⟨w1.heap.size, 4, none⟩ (.int .i64 0)) := ⟨_, rfl⟩
      have W4 : Whole w4 w.heap.size 25 (bvc b ab cb) := by
        rw [hw4]; exact ((((W3.far _ 0 _ (by omega)).far _ 1 _ (by omega)).far _ 2 _ (by omega)).far _ 3 _ (by omega)).far _ 4 _ (by omega)
      rw [← hw4] at Z4 s4
      have b4 := b3.trans (s4.mono (by omega))
      have HW4 := Lib.hid hw4
      clear hw4 s4
      go_upto_region 13 with fail
      rw [← HW4.out]
      clear x0 x1 x2 x3 x4 z0 z1 z2 z3 z4 e0 e1 e2 e3 e4 HW4
      obtain ⟨x0, x1, x2, x3, x4, _⟩ := W4.five
      obtain ⟨⟨z0, z1, z2, z3, z4⟩, e0, e1, e2, e3, e4⟩ := Z4.five5
      go_wp2_with fail
      go_ret3
      exact ⟨rfl, b4⟩
    · have hre : r = ⟨b.pid, 0, 0, 0, 0⟩ := by
        rcases HR.out with ⟨h1, _⟩ | ⟨_, h1, _⟩
        · have hm := getR_miss prKey pr0 (fun p hp => HL.out p (by rw [← HNe.out]; exact hp))
          rw [hm] at h1; cases h1
        · exact h1
      have W3 := W1z.keep g2
      have b3 := gtrans (gtrans b1 hz) g2
      have Z3 : Whole w2 w1.heap.size 44 #[.int .i64 0, .int .i64 r.e, .int .i64 r.s, .int .i64 r.n, .int .i64 r.b] := by rw [hre]; exact Z1.keep g2
      clear hre h1 h' hz g2 g1 hal HR H1 W1 W1z Z1 hW x0 x1 x2 x3 x4 y0 y1 y2 y3 y4 HL
      go_upto_region 9 with fail
      obtain ⟨x0, x1, x2, x3, x4, _⟩ := W3.five
      obtain ⟨⟨z0, z1, z2, z3, z4⟩, e0, e1, e2, e3, e4⟩ := Z3.five5
      have hlt2 : w.heap.size < w1.heap.size := hg1
      obtain ⟨Z4, s4⟩ := st5 Z3 (.int .i64 0) (.int .i64 0) (.int .i64 0) (.int .i64 0) (.int .i64 0)
      obtain ⟨w4, hw4⟩ : ∃ w4, w4 = (((((w2.setCell ⟨w1.heap.size, 0, none⟩ (.int .i64 0)).setCell ⟨w1.heap.size, 1, none⟩ (.int .i64 0)).setCell ⟨w1.heap.size, 2, none⟩ (.int .i64 0)).setCell ⟨w1.heap.size, 3, none⟩ (.int .i64 0)).setCell ⟨w1.heap.size, 4, none⟩ (.int .i64 0)) := ⟨_, rfl⟩
      have W4 : Whole w4 w.heap.size 25 (bvc b ab cb) := by
        rw [hw4]; exact ((((W3.far _ 0 _ (by omega)).far _ 1 _ (by omega)).far _ 2 _ (by omega)).far _ 3 _ (by omega)).far _ 4 _ (by omega)
      rw [← hw4] at Z4 s4
      have b4 := b3.trans (s4.mono (by omega))
      have HW4 := Lib.hid hw4
      clear hw4 s4
      go_upto_region 13 with fail
      rw [← HW4.out]
      clear x0 x1 x2 x3 x4 z0 z1 z2 z3 z4 e0 e1 e2 e3 e4 HW4
      obtain ⟨x0, x1, x2, x3, x4, _⟩ := W4.five
      obtain ⟨⟨z0, z1, z2, z3, z4⟩, e0, e1, e2, e3, e4⟩ := Z4.five5
      go_wp2_with fail
      go_ret3
      exact ⟨rfl, b4⟩
  · obtain ⟨he, hn, hs, rfl, rfl, rfl⟩ := hD
    have hpb : (b.pid == 0) = false := by simp [hp]
    have f1 : ¬ b.epoch < r.e := by omega
    have f2 : ¬ r.e < b.epoch := by omega
    have f4 : ¬ 0 < r.n := by omega
    have f3 : (b.seq != 0) = true := by simp; omega
    have H1 := Lib.hid (H1.out 0 (.inl ⟨hm, rfl⟩))
    clear hp he hn hs hm hr hr' h
    unfold bv
    go_enter Try.func17, Try.ntmps17
    have y := hW.five
    obtain ⟨x0, x1, x2, x3, x4, _⟩ := y
    go_wp2_with fail
    refine H1.out.mono ?_
    rintro e w1 ⟨rfl, g1⟩
    have W1 := hW.keep g1
    clear x0 x1 x2 x3 x4
    obtain ⟨x0, x1, x2, x3, x4, hg1⟩ := W1.five
    have b1 := gtrans hal g1
    have hz := balloc w1 (.cells #[.int .i64 0, .int .i64 0, .int .i64 0, .int .i64 0, .int .i64 0] 44)
    have Z1 := Whole.new w1 44 #[.int .i64 0, .int .i64 0, .int .i64 0, .int .i64 0, .int .i64 0]
    have W1z := W1.keep hz
    obtain ⟨y0, y1, y2, y3, y4, hg2⟩ := W1z.five
    have h1 := (h'.below g1 hB').below hz (Nat.le_trans hB' g1.size)
    have hz1 : w1.heap.size < (w1.alloc (.cells #[.int .i64 0, .int .i64 0, .int .i64 0, .int .i64 0, .int .i64 0] 44)).heap.size := Z1.lt
    go_wp2_with fail
    refine (H2.out _ h1 (Nat.le_trans (Nat.le_trans hB' g1.size) hz.size)).mono ?_
    have key : ∀ w3 p0, Whole w3 w.heap.size 25 (bvc b ab cb) → Whole w3 w1.heap.size 44 #[.int .i64 p0, .int .i64 r.e, .int .i64 r.s, .int .i64 r.n, .int .i64 r.b] → Below w.heap.size w w3 → True := fun _ _ _ _ _ => trivial
    clear key
    rintro e w2 (⟨k, hk, HL, HE, rfl, g2⟩ | ⟨HL, rfl, g2⟩)
    · have hrr : l.getD k pr0 = r := by
        have hg := getR_hit prKey pr0 HL.out (by rw [HNe.out]; exact hk) HE.out
        rcases HR.out with ⟨h1, _⟩ | ⟨h1, _⟩
        · rw [hg] at h1; injection h1
        · rw [hg] at h1; cases h1
      obtain ⟨b1', o1, rfl, hb1, hc⟩ := (h1.below g2 (Nat.le_trans (Nat.le_trans hB' g1.size) hz.size)).pr (by rw [HNe.out]; omega)
      obtain ⟨r0, r1, r2, r3, r4⟩ := hc k (by rw [HNe.out]; exact hk)
      rw [hrr] at r0 r1 r2 r3 r4
      have hk2 : k < N := hk
      have Z2 := Z1.keep g2
      obtain ⟨⟨z0, z1, z2, z3, z4⟩, e0, e1, e2, e3, e4⟩ := Z2.five5
      obtain ⟨Z3, s3⟩ := st5 Z2 (.int .i64 r.p) (.int .i64 r.e) (.int .i64 r.s) (.int .i64 r.n) (.int .i64 r.b)
      have W3 := W1z.keep g2
      have b3 := gtrans (gtrans b1 hz) g2
      have hlt1 : w.heap.size < w1.heap.size := hg1
      obtain ⟨w3, hw3⟩ : ∃ w3, w3 = (((((w2.setCell ⟨w1.heap.size, 0, none⟩ (.int .i64 r.p)).setCell ⟨w1.heap.size, 1, none⟩ (.int .i64 r.e)).setCell ⟨w1.heap.size, 2, none⟩ (.int .i64 r.s)).setCell ⟨w1.heap.size, 3, none⟩ (.int .i64 r.n)).setCell ⟨w1.heap.size, 4, none⟩ (.int .i64 r.b)) := ⟨_, rfl⟩
      have W3 : Whole w3 w.heap.size 25 (bvc b ab cb) := by
        rw [hw3]; exact ((((W3.far _ 0 _ (by omega)).far _ 1 _ (by omega)).far _ 2 _ (by omega)).far _ 3 _ (by omega)).far _ 4 _ (by omega)
      rw [← hw3] at Z3 s3
      have b3 := b3.trans (s3.mono (by omega))
      have HW3 := Lib.hid hw3
      have hz2 : w1.heap.size < w2.heap.size := Nat.lt_of_lt_of_le hz1 g2.size
      clear hw3 hc hrr h1 h' Z2 hz hk s3 HL HE g2 g1 hal HR H1 W1 W1z Z1 hW x0 x1 x2 x3 x4 y0 y1 y2 y3 y4
      go_upto_region 9 with fail
      rw [← HW3.out]
      clear z0 z1 z2 z3 z4 e0 e1 e2 e3 e4 r0 r1 r2 r3 r4 HW3
      obtain ⟨x0, x1, x2, x3, x4, _⟩ := W3.five
      obtain ⟨⟨z0, z1, z2, z3, z4⟩, e0, e1, e2, e3, e4⟩ := Z3.five5
      go_wp2_with fail
      go_ret3
      exact ⟨rfl, b3⟩
    · have hre : r = ⟨b.pid, 0, 0, 0, 0⟩ := by
        rcases HR.out with ⟨h1, _⟩ | ⟨_, h1, _⟩
        · have hm := getR_miss prKey pr0 (fun p hp => HL.out p (by rw [← HNe.out]; exact hp))
          rw [hm] at h1; cases h1
        · exact h1
      have W3 := W1z.keep g2
      have b3 := gtrans (gtrans b1 hz) g2
      have Z3 : Whole w2 w1.heap.size 44 #[.int .i64 0, .int .i64 r.e, .int .i64 r.s, .int .i64 r.n, .int .i64 r.b] := by rw [hre]; exact Z1.keep g2
      clear hre h1 h' hz g2 g1 hal HR H1 W1 W1z Z1 hW x0 x1 x2 x3 x4 y0 y1 y2 y3 y4 HL
      go_upto_region 9 with fail
      obtain ⟨x0, x1, x2, x3, x4, _⟩ := W3.five
      obtain ⟨⟨z0, z1, z2, z3, z4⟩, e0, e1, e2, e3, e4⟩ := Z3.five5
      go_wp2_with fail
      go_ret3
      exact ⟨rfl, b3⟩
  · obtain ⟨he, hn, hs, rfl, rfl, rfl⟩ := hD
    have hpb : (b.pid == 0) = false := by simp [hp]
    have f1 : ¬ b.epoch < r.e := by omega
    have f2 : ¬ r.e < b.epoch := by omega
    have f4 : ¬ 0 < r.n := by omega
    have f3 : (b.seq != 0) = false := by simp; omega
    have H1 := Lib.hid (H1.out 0 (.inl ⟨hm, rfl⟩))
    clear hp he hn hs hm hr hr' h
    unfold bv
    go_enter Try.func17, Try.ntmps17
    have y := hW.five
    obtain ⟨x0, x1, x2, x3, x4, _⟩ := y
    go_wp2_with fail
    refine H1.out.mono ?_
    rintro e w1 ⟨rfl, g1⟩
    have W1 := hW.keep g1
    clear x0 x1 x2 x3 x4
    obtain ⟨x0, x1, x2, x3, x4, hg1⟩ := W1.five
    have b1 := gtrans hal g1
    have hz := balloc w1 (.cells #[.int .i64 0, .int .i64 0, .int .i64 0, .int .i64 0, .int .i64 0] 44)
    have Z1 := Whole.new w1 44 #[.int .i64 0, .int .i64 0, .int .i64 0, .int .i64 0, .int .i64 0]
    have W1z := W1.keep hz
    obtain ⟨y0, y1, y2, y3, y4, hg2⟩ := W1z.five
    have h1 := (h'.below g1 hB').below hz (Nat.le_trans hB' g1.size)
    have hz1 : w1.heap.size < (w1.alloc (.cells #[.int .i64 0, .int .i64 0, .int .i64 0, .int .i64 0, .int .i64 0] 44)).heap.size := Z1.lt
    go_wp2_with fail
    refine (H2.out _ h1 (Nat.le_trans (Nat.le_trans hB' g1.size) hz.size)).mono ?_
    have key : ∀ w3 p0, Whole w3 w.heap.size 25 (bvc b ab cb) → Whole w3 w1.heap.size 44 #[.int .i64 p0, .int .i64 r.e, .int .i64 r.s, .int .i64 r.n, .int .i64 r.b] → Below w.heap.size w w3 → True := fun _ _ _ _ _ => trivial
    clear key
    rintro e w2 (⟨k, hk, HL, HE, rfl, g2⟩ | ⟨HL, rfl, g2⟩)
    · have hrr : l.getD k pr0 = r := by
        have hg := getR_hit prKey pr0 HL.out (by rw [HNe.out]; exact hk) HE.out
        rcases HR.out with ⟨h1, _⟩ | ⟨h1, _⟩
        · rw [hg] at h1; injection h1
        · rw [hg] at h1; cases h1
      obtain ⟨b1', o1, rfl, hb1, hc⟩ := (h1.below g2 (Nat.le_trans (Nat.le_trans hB' g1.size) hz.size)).pr (by rw [HNe.out]; omega)
      obtain ⟨r0, r1, r2, r3, r4⟩ := hc k (by rw [HNe.out]; exact hk)
      rw [hrr] at r0 r1 r2 r3 r4
      have hk2 : k < N := hk
      have Z2 := Z1.keep g2
      obtain ⟨⟨z0, z1, z2, z3, z4⟩, e0, e1, e2, e3, e4⟩ := Z2.five5
      obtain ⟨Z3, s3⟩ := st5 Z2 (.int .i64 r.p) (.int .i64 r.e) (.int .i64 r.s) (.int .i64 r.n) (.int .i64 r.b)
      have W3 := W1z.keep g2
      have b3 := gtrans (gtrans b1 hz) g2
      have hlt1 : w.heap.size < w1.heap.size := hg1
      obtain ⟨w3, hw3⟩ : ∃ w3, w3 = (((((w2.setCell ⟨w1.heap.size, 0, none⟩ (.int .i64 r.p)).setCell ⟨w1.heap.size, 1, none⟩ (.int .i64 r.e)).setCell ⟨w1.heap.size, 2, none⟩ (.int .i64 r.s)).setCell ⟨w1.heap.size, 3, none⟩ (.int .i64 r.n)).setCell ⟨w1.heap.size, 4, none⟩ (.int .i64 r.b)) := ⟨_, rfl⟩
      have W3 : Whole w3 w.heap.size 25 (bvc b ab cb) := by
        rw [hw3]; exact ((((W3.far _ 0 _ (by omega)).far _ 1 _ (by omega)).far _ 2 _ (by omega)).far _ 3 _ (by omega)).far _ 4 _ (by omega)
      rw [← hw3] at Z3 s3
      have b3 := b3.trans (s3.mono (by omega))
      have HW3 := Lib.hid hw3
      have hz2 : w1.heap.size < w2.heap.size := Nat.lt_of_lt_of_le hz1 g2.size
      clear hw3 hc hrr h1 h' Z2 hz hk s3 HL HE g2 g1 hal HR H1 W1 W1z Z1 hW x0 x1 x2 x3 x4 y0 y1 y2 y3 y4
      go_upto_region 9 with fail
      rw [← HW3.out]
      clear z0 z1 z2 z3 z4 e0 e1 e2 e3 e4 r0 r1 r2 r3 r4 HW3
      obtain ⟨x0, x1, x2, x3, x4, _⟩ := W3.five
      obtain ⟨⟨z0, z1, z2, z3, z4⟩, e0, e1, e2, e3, e4⟩ := Z3.five5
      go_wp2_with fail
      go_ret3
      exact ⟨rfl, b3⟩
    · have hre : r = ⟨b.pid, 0, 0, 0, 0⟩ := by
        rcases HR.out with ⟨h1, _⟩ | ⟨_, h1, _⟩
        · have hm := getR_miss prKey pr0 (fun p hp => HL.out p (by rw [← HNe.out]; exact hp))
          rw [hm] at h1; cases h1
        · exact h1
      have W3 := W1z.keep g2
      have b3 := gtrans (gtrans b1 hz) g2
      have Z3 : Whole w2 w1.heap.size 44 #[.int .i64 0, .int .i64 r.e, .int .i64 r.s, .int .i64 r.n, .int .i64 r.b] := by rw [hre]; exact Z1.keep g2
      clear hre h1 h' hz g2 g1 hal HR H1 W1 W1z Z1 hW x0 x1 x2 x3 x4 y0 y1 y2 y3 y4 HL
      go_upto_region 9 with fail
      obtain ⟨x0, x1, x2, x3, x4, _⟩ := W3.five
      obtain ⟨⟨z0, z1, z2, z3, z4⟩, e0, e1, e2, e3, e4⟩ := Z3.five5
      go_wp2_with fail
      go_ret3
      exact ⟨rfl, b3⟩
  · obtain ⟨he, hn, ⟨hs, hl⟩, rfl, rfl, rfl⟩ := hD
    have hpb : (b.pid == 0) = false := by simp [hp]
    have f1 : ¬ b.epoch < r.e := by omega
    have f2 : ¬ r.e < b.epoch := by omega
    have f4 : 0 < r.n := hn
    have f5 : (b.seq == r.s) = true := by rw [hs]; exact beq_self_eq_true _
    have f6 : ((b.l.length : Int) == r.n) = true := by rw [hl]; exact beq_self_eq_true _
    have H1 := Lib.hid (H1.out 0 (.inl ⟨hm, rfl⟩))
    clear hp he hn hs hl hm hr hr' h
    unfold bv
    go_enter Try.func17, Try.ntmps17
    have y := hW.five
    obtain ⟨x0, x1, x2, x3, x4, _⟩ := y
    go_wp2_with fail
    refine H1.out.mono ?_
    rintro e w1 ⟨rfl, g1⟩
    have W1 := hW.keep g1
    clear x0 x1 x2 x3 x4
    obtain ⟨x0, x1, x2, x3, x4, hg1⟩ := W1.five
    have b1 := gtrans hal g1
    have hz := balloc w1 (.cells #[.int .i64 0, .int .i64 0, .int .i64 0, .int .i64 0, .int .i64 0] 44)
    have Z1 := Whole.new w1 44 #[.int .i64 0, .int .i64 0, .int .i64 0, .int .i64 0, .int .i64 0]
    have W1z := W1.keep hz
    obtain ⟨y0, y1, y2, y3, y4, hg2⟩ := W1z.five
    have h1 := (h'.below g1 hB').below hz (Nat.le_trans hB' g1.size)
    have hz1 : w1.heap.size < (w1.alloc (.cells #[.int .i64 0, .int .i64 0, .int .i64 0, .int .i64 0, .int .i64 0] 44)).heap.size := Z1.lt
    go_wp2_with fail
    refine (H2.out _ h1 (Nat.le_trans (Nat.le_trans hB' g1.size) hz.size)).mono ?_
    have key : ∀ w3 p0, Whole w3 w.heap.size 25 (bvc b ab cb) → Whole w3 w1.heap.size 44 #[.int .i64 p0, .int .i64 r.e, .int .i64 r.s, .int .i64 r.n, .int .i64 r.b] → Below w.heap.size w w3 → True := fun _ _ _ _ _ => trivial
    clear key
    rintro e w2 (⟨k, hk, HL, HE, rfl, g2⟩ | ⟨HL, rfl, g2⟩)
    · have hrr : l.getD k pr0 = r := by
        have hg := getR_hit prKey pr0 HL.out (by rw [HNe.out]; exact hk) HE.out
        rcases HR.out with ⟨h1, _⟩ | ⟨h1, _⟩
        · rw [hg] at h1; injection h1
        · rw [hg] at h1; cases h1
      obtain ⟨b1', o1, rfl, hb1, hc⟩ := (h1.below g2 (Nat.le_trans (Nat.le_trans hB' g1.size) hz.size)).pr (by rw [HNe.out]; omega)
      obtain ⟨r0, r1, r2, r3, r4⟩ := hc k (by rw [HNe.out]; exact hk)
      rw [hrr] at r0 r1 r2 r3 r4
      have hk2 : k < N := hk
      have Z2 := Z1.keep g2
      obtain ⟨⟨z0, z1, z2, z3, z4⟩, e0, e1, e2, e3, e4⟩ := Z2.five5
      obtain ⟨Z3, s3⟩ := st5 Z2 (.int .i64 r.p) (.int .i64 r.e) (.int .i64 r.s) (.int .i64 r.n) (.int .i64 r.b)
      have W3 := W1z.keep g2
      have b3 := gtrans (gtrans b1 hz) g2
      have hlt1 : w.heap.size < w1.heap.size := hg1
      obtain ⟨w3, hw3⟩ : ∃ w3, w3 = (((((w2.setCell ⟨w1.heap.size, 0, none⟩ (.int .i64 r.p)).setCell ⟨w1.heap.size, 1, none⟩ (.int .i64 r.e)).setCell ⟨w1.heap.size, 2, none⟩ (.int .i64 r.s)).setCell ⟨w1.heap.size, 3, none⟩ (.int .i64 r.n)).setCell ⟨w1.heap.size, 4, none⟩ (.int .i64 r.b)) := ⟨_, rfl⟩
      have W3 : Whole w3 w.heap.size 25 (bvc b ab cb) := by
        rw [hw3]; exact ((((W3.far _ 0 _ (by omega)).far _ 1 _ (by omega)).far _ 2 _ (by omega)).far _ 3 _ (by omega)).far _ 4 _ (by omega)
      rw [← hw3] at Z3 s3
      have b3 := b3.trans (s3.mono (by omega))
      have HW3 := Lib.hid hw3
      have hz2 : w1.heap.size < w2.heap.size := Nat.lt_of_lt_of_le hz1 g2.size
      clear hw3 hc hrr h1 h' Z2 hz hk s3 HL HE g2 g1 hal HR H1 W1 W1z Z1 hW x0 x1 x2 x3 x4 y0 y1 y2 y3 y4
      go_upto_region 9 with fail
      rw [← HW3.out]
      clear z0 z1 z2 z3 z4 e0 e1 e2 e3 e4 r0 r1 r2 r3 r4 HW3
      obtain ⟨x0, x1, x2, x3, x4, _⟩ := W3.five
      obtain ⟨⟨z0, z1, z2, z3, z4⟩, e0, e1, e2, e3, e4⟩ := Z3.five5
      go_wp2_with fail
      go_ret3
      exact ⟨rfl, b3⟩
    · have hre : r = ⟨b.pid, 0, 0, 0, 0⟩ := by
        rcases HR.out with ⟨h1, _⟩ | ⟨_, h1, _⟩
        · have hm := getR_miss prKey pr0 (fun p hp => HL.out p (by rw [← HNe.out]; exact hp))
          rw [hm] at h1; cases h1
        · exact h1
      have W3 := W1z.keep g2
      have b3 := gtrans (gtrans b1 hz) g2
      have Z3 : Whole w2 w1.heap.size 44 #[.int .i64 0, .int .i64 r.e, .int .i64 r.s, .int .i64 r.n, .int .i64 r.b] := by rw [hre]; exact Z1.keep g2
      clear hre h1 h' hz g2 g1 hal HR H1 W1 W1z Z1 hW x0 x1 x2 x3 x4 y0 y1 y2 y3 y4 HL
      go_upto_region 9 with fail
      obtain ⟨x0, x1, x2, x3, x4, _⟩ := W3.five
      obtain ⟨⟨z0, z1, z2, z3, z4⟩, e0, e1, e2, e3, e4⟩ := Z3.five5
      go_wp2_with fail
      go_ret3
      exact ⟨rfl, b3⟩
  · obtain ⟨he, hn, hs, hw, rfl, rfl, rfl⟩ := hD
    have hpb : (b.pid == 0) = false := by simp [hp]
    have f1 : ¬ b.epoch < r.e := by omega
    have f2 : ¬ r.e < b.epoch := by omega
    have f4 : 0 < r.n := hn
    have hs2 : ((b.seq == r.s) = false ∧ True) ∨ ((b.seq == r.s) = true ∧ ((b.l.length : Int) == r.n) = false) := by
      by_cases h1 : b.seq = r.s
      · exact .inr ⟨by simp [h1], by simp; exact fun h2 => hs ⟨h1, h2⟩⟩
      · exact .inl ⟨by simp [h1], trivial⟩
    have f7 : (b.seq != wrap64 (r.s + r.n)) = true := by simp only [bne_iff_ne]; intro h; exact hw (by rw [h, IntKind.wrap_i64]; unfold wrap64; rfl)
    have H1 := Lib.hid (H1.out 0 (.inl ⟨hm, rfl⟩))
    clear hp he hn hs hw hm hr hr' h
    unfold bv
    go_enter Try.func17, Try.ntmps17
    have y := hW.five
    obtain ⟨x0, x1, x2, x3, x4, _⟩ := y
    go_wp2_with fail
    refine H1.out.mono ?_
    rintro e w1 ⟨rfl, g1⟩
    have W1 := hW.keep g1
    clear x0 x1 x2 x3 x4
    obtain ⟨x0, x1, x2, x3, x4, hg1⟩ := W1.five
    have b1 := gtrans hal g1
    have hz := balloc w1 (.cells #[.int .i64 0, .int .i64 0, .int .i64 0, .int .i64 0, .int .i64 0] 44)
    have Z1 := Whole.new w1 44 #[.int .i64 0, .int .i64 0, .int .i64 0, .int .i64 0, .int .i64 0]
    have W1z := W1.keep hz
    obtain ⟨y0, y1, y2, y3, y4, hg2⟩ := W1z.five
    have h1 := (h'.below g1 hB').below hz (Nat.le_trans hB' g1.size)
    have hz1 : w1.heap.size < (w1.alloc (.cells #[.int .i64 0, .int .i64 0, .int .i64 0, .int .i64 0, .int .i64 0] 44)).heap.size := Z1.lt
    go_wp2_with fail
    refine (H2.out _ h1 (Nat.le_trans (Nat.le_trans hB' g1.size) hz.size)).mono ?_
    have key : ∀ w3 p0, Whole w3 w.heap.size 25 (bvc b ab cb) → Whole w3 w1.heap.size 44 #[.int .i64 p0, .int .i64 r.e, .int .i64 r.s, .int .i64 r.n, .int .i64 r.b] → Below w.heap.size w w3 → True := fun _ _ _ _ _ => trivial
    clear key
    rintro e w2 (⟨k, hk, HL, HE, rfl, g2⟩ | ⟨HL, rfl, g2⟩)
    · have hrr : l.getD k pr0 = r := by
        have hg := getR_hit prKey pr0 HL.out (by rw [HNe.out]; exact hk) HE.out
        rcases HR.out with ⟨h1, _⟩ | ⟨h1, _⟩
        · rw [hg] at h1; injection h1
        · rw [hg] at h1; cases h1
      obtain ⟨b1', o1, rfl, hb1, hc⟩ := (h1.below g2 (Nat.le_trans (Nat.le_trans hB' g1.size) hz.size)).pr (by rw [HNe.out]; omega)
      obtain ⟨r0, r1, r2, r3, r4⟩ := hc k (by rw [HNe.out]; exact hk)
      rw [hrr] at r0 r1 r2 r3 r4
      have hk2 : k < N := hk
      have Z2 := Z1.keep g2
      obtain ⟨⟨z0, z1, z2, z3, z4⟩, e0, e1, e2, e3, e4⟩ := Z2.five5
      obtain ⟨Z3, s3⟩ := st5 Z2 (.int .i64 r.p) (.int .i64 r.e) (.int .i64 r.s) (.int .i64 r.n) (.int .i64 r.b)
      have W3 := W1z.keep g2
      have b3 := gtrans (gtrans b1 hz) g2
      have hlt1 : w.heap.size < w1.heap.size := hg1
      obtain ⟨w3, hw3⟩ : ∃ w3, w3 = (((((w2.setCell ⟨w1.heap.size, 0, none⟩ (.int .i64 r.p)).setCell ⟨w1.heap.size, 1, none⟩ (.int .i64 r.e)).setCell ⟨w1.heap.size, 2, none⟩ (.int .i64 r.s)).setCell ⟨w1.heap.size, 3, none⟩ (.int .i64 r.n)).setCell ⟨w1.heap.size, 4, none⟩ (.int .i64 r.b)) := ⟨_, rfl⟩
      have W3 : Whole w3 w.heap.size 25 (bvc b ab cb) := by
        rw [hw3]; exact ((((W3.far _ 0 _ (by omega)).far _ 1 _ (by omega)).far _ 2 _ (by omega)).far _ 3 _ (by omega)).far _ 4 _ (by omega)
      rw [← hw3] at Z3 s3
      have b3 := b3.trans (s3.mono (by omega))
      have HW3 := Lib.hid hw3
      have hz2 : w1.heap.size < w2.heap.size := Nat.lt_of_lt_of_le hz1 g2.size
      clear hw3 hc hrr h1 h' Z2 hz hk s3 HL HE g2 g1 hal HR H1 W1 W1z Z1 hW x0 x1 x2 x3 x4 y0 y1 y2 y3 y4
      go_upto_region 9 with fail
      rw [← HW3.out]
      clear z0 z1 z2 z3 z4 e0 e1 e2 e3 e4 r0 r1 r2 r3 r4 HW3
      obtain ⟨x0, x1, x2, x3, x4, _⟩ := W3.five
      obtain ⟨⟨z0, z1, z2, z3, z4⟩, e0, e1, e2, e3, e4⟩ := Z3.five5
      rcases hs2 with ⟨f5, _⟩ | ⟨f5, f6⟩
      all_goals
        go_wp2_with fail
        go_ret3
        exact ⟨rfl, b3⟩
    · have hre : r = ⟨b.pid, 0, 0, 0, 0⟩ := by
        rcases HR.out with ⟨h1, _⟩ | ⟨_, h1, _⟩
        · have hm := getR_miss prKey pr0 (fun p hp => HL.out p (by rw [← HNe.out]; exact hp))
          rw [hm] at h1; cases h1
        · exact h1
      have W3 := W1z.keep g2
      have b3 := gtrans (gtrans b1 hz) g2
      have Z3 : Whole w2 w1.heap.size 44 #[.int .i64 0, .int .i64 r.e, .int .i64 r.s, .int .i64 r.n, .int .i64 r.b] := by rw [hre]; exact Z1.keep g2
      clear hre h1 h' hz g2 g1 hal HR H1 W1 W1z Z1 hW x0 x1 x2 x3 x4 y0 y1 y2 y3 y4 HL
      go_upto_region 9 with fail
      obtain ⟨x0, x1, x2, x3, x4, _⟩ := W3.five
      obtain ⟨⟨z0, z1, z2, z3, z4⟩, e0, e1, e2, e3, e4⟩ := Z3.five5
      rcases hs2 with ⟨f5, _⟩ | ⟨f5, f6⟩
      all_goals
        go_wp2_with fail
        go_ret3
        exact ⟨rfl, b3⟩
  · obtain ⟨he, hn, hs, hw, rfl, rfl, rfl⟩ := hD
    have hpb : (b.pid == 0) = false := by simp [hp]
    have f1 : ¬ b.epoch < r.e := by omega
    have f2 : ¬ r.e < b.epoch := by omega
    have f4 : 0 < r.n := hn
    have hs2 : ((b.seq == r.s) = false ∧ True) ∨ ((b.seq == r.s) = true ∧ ((b.l.length : Int) == r.n) = false) := by
      by_cases h1 : b.seq = r.s
      · exact .inr ⟨by simp [h1], by simp; exact fun h2 => hs ⟨h1, h2⟩⟩
      · exact .inl ⟨by simp [h1], trivial⟩
    have f7 : (b.seq != wrap64 (r.s + r.n)) = false := by simp only [bne_eq_false_iff_eq]; rw [hw, IntKind.wrap_i64]; unfold wrap64; rfl
    have H1 := Lib.hid (H1.out 0 (.inl ⟨hm, rfl⟩))
    clear hp he hn hs hw hm hr hr' h
    unfold bv
    go_enter Try.func17, Try.ntmps17
    have y := hW.five
    obtain ⟨x0, x1, x2, x3, x4, _⟩ := y
    go_wp2_with fail
    refine H1.out.mono ?_
    rintro e w1 ⟨rfl, g1⟩
    have W1 := hW.keep g1
    clear x0 x1 x2 x3 x4
    obtain ⟨x0, x1, x2, x3, x4, hg1⟩ := W1.five
    have b1 := gtrans hal g1
    have hz := balloc w1 (.cells #[.int .i64 0, .int .i64 0, .int .i64 0, .int .i64 0, .int .i64 0] 44)
    have Z1 := Whole.new w1 44 #[.int .i64 0, .int .i64 0, .int .i64 0, .int .i64 0, .int .i64 0]
    have W1z := W1.keep hz
    obtain ⟨y0, y1, y2, y3, y4, hg2⟩ := W1z.five
    have h1 := (h'.below g1 hB').below hz (Nat.le_trans hB' g1.size)
    have hz1 : w1.heap.size < (w1.alloc (.cells #[.int .i64 0, .int .i64 0, .int .i64 0, .int .i64 0, .int .i64 0] 44)).heap.size := Z1.lt
    go_wp2_with fail
    refine (H2.out _ h1 (Nat.le_trans (Nat.le_trans hB' g1.size) hz.size)).mono ?_
    have key : ∀ w3 p0, Whole w3 w.heap.size 25 (bvc b ab cb) → Whole w3 w1.heap.size 44 #[.int .i64 p0, .int .i64 r.e, .int .i64 r.s, .int .i64 r.n, .int .i64 r.b] → Below w.heap.size w w3 → True := fun _ _ _ _ _ => trivial
    clear key
    rintro e w2 (⟨k, hk, HL, HE, rfl, g2⟩ | ⟨HL, rfl, g2⟩)
    · have hrr : l.getD k pr0 = r := by
        have hg := getR_hit prKey pr0 HL.out (by rw [HNe.out]; exact hk) HE.out
        rcases HR.out with ⟨h1, _⟩ | ⟨h1, _⟩
        · rw [hg] at h1; injection h1
        · rw [hg] at h1; cases h1
      obtain ⟨b1', o1, rfl, hb1, hc⟩ := (h1.below g2 (Nat.le_trans (Nat.le_trans hB' g1.size) hz.size)).pr (by rw [HNe.out]; omega)
      obtain ⟨r0, r1, r2, r3, r4⟩ := hc k (by rw [HNe.out]; exact hk)
      rw [hrr] at r0 r1 r2 r3 r4
      have hk2 : k < N := hk
      have Z2 := Z1.keep g2
      obtain ⟨⟨z0, z1, z2, z3, z4⟩, e0, e1, e2, e3, e4⟩ := Z2.five5
      obtain ⟨Z3, s3⟩ := st5 Z2 (.int .i64 r.p) (.int .i64 r.e) (.int .i64 r.s) (.int .i64 r.n) (.int .i64 r.b)
      have W3 := W1z.keep g2
      have b3 := gtrans (gtrans b1 hz) g2
      have hlt1 : w.heap.size < w1.heap.size := hg1
      obtain ⟨w3, hw3⟩ : ∃ w3, w3 = (((((w2.setCell ⟨w1.heap.size, 0, none⟩ (.int .i64 r.p)).setCell ⟨w1.heap.size, 1, none⟩ (.int .i64 r.e)).setCell ⟨w1.heap.size, 2, none⟩ (.int .i64 r.s)).setCell ⟨w1.heap.size, 3, none⟩ (.int .i64 r.n)).setCell ⟨w1.heap.size, 4, none⟩ (.int .i64 r.b)) := ⟨_, rfl⟩
      have W3 : Whole w3 w.heap.size 25 (bvc b ab cb) := by
        rw [hw3]; exact ((((W3.far _ 0 _ (by omega)).far _ 1 _ (by omega)).far _ 2 _ (by omega)).far _ 3 _ (by omega)).far _ 4 _ (by omega)
      rw [← hw3] at Z3 s3
      have b3 := b3.trans (s3.mono (by omega))
      have HW3 := Lib.hid hw3
      have hz2 : w1.heap.size < w2.heap.size := Nat.lt_of_lt_of_le hz1 g2.size
      clear hw3 hc hrr h1 h' Z2 hz hk s3 HL HE g2 g1 hal HR H1 W1 W1z Z1 hW x0 x1 x2 x3 x4 y0 y1 y2 y3 y4
      go_upto_region 9 with fail
      rw [← HW3.out]
      clear z0 z1 z2 z3 z4 e0 e1 e2 e3 e4 r0 r1 r2 r3 r4 HW3
      obtain ⟨x0, x1, x2, x3, x4, _⟩ := W3.five
      obtain ⟨⟨z0, z1, z2, z3, z4⟩, e0, e1, e2, e3, e4⟩ := Z3.five5
      rcases hs2 with ⟨f5, _⟩ | ⟨f5, f6⟩
      all_goals
        go_wp2_with fail
        go_ret3
        exact ⟨rfl, b3⟩
    · have hre : r = ⟨b.pid, 0, 0, 0, 0⟩ := by
        rcases HR.out with ⟨h1, _⟩ | ⟨_, h1, _⟩
        · have hm := getR_miss prKey pr0 (fun p hp => HL.out p (by rw [← HNe.out]; exact hp))
          rw [hm] at h1; cases h1
        · exact h1
      have W3 := W1z.keep g2
      have b3 := gtrans (gtrans b1 hz) g2
      have Z3 : Whole w2 w1.heap.size 44 #[.int .i64 0, .int .i64 r.e, .int .i64 r.s, .int .i64 r.n, .int .i64 r.b] := by rw [hre]; exact Z1.keep g2
      clear hre h1 h' hz g2 g1 hal HR H1 W1 W1z Z1 hW x0 x1 x2 x3 x4 y0 y1 y2 y3 y4 HL
      go_upto_region 9 with fail
      obtain ⟨x0, x1, x2, x3, x4, _⟩ := W3.five
      obtain ⟨⟨z0, z1, z2, z3, z4⟩, e0, e1, e2, e3, e4⟩ := Z3.five5
      rcases hs2 with ⟨f5, _⟩ | ⟨f5, f6⟩
      all_goals
        go_wp2_with fail
        go_ret3
        exact ⟨rfl, b3⟩
  · have H1 := Lib.hid (H1.out 1 (.inr ⟨hm, rfl⟩))
    clear hm h hr hr'
    unfold bv
    go_enter Try.func17, Try.ntmps17
    have y := hW.five
    obtain ⟨x0, x1, x2, x3, x4, _⟩ := y
    go_wp2_with fail
    refine H1.out.mono ?_
    rintro e w1 ⟨rfl, g1⟩
    have W1 := hW.keep g1
    clear x0 x1 x2 x3 x4
    obtain ⟨x0, x1, x2, x3, x4, hg1⟩ := W1.five
    have b1 := gtrans hal g1
    go_wp2_with fail
    go_ret3
    exact ⟨rfl, b1⟩
  · have H1 := Lib.hid (H1.out 0 (.inl ⟨hm, rfl⟩))
    clear hm h hr hr'
    unfold bv
    go_enter Try.func17, Try.ntmps17
    have y := hW.five
    obtain ⟨x0, x1, x2, x3, x4, _⟩ := y
    go_wp2_with fail
    refine H1.out.mono ?_
    rintro e w1 ⟨rfl, g1⟩
    have W1 := hW.keep g1
    clear x0 x1 x2 x3 x4
    obtain ⟨x0, x1, x2, x3, x4, hg1⟩ := W1.five
    have b1 := gtrans hal g1
    go_wp2_with fail
    go_ret3
    exact ⟨rfl, b1⟩
end Go.Proofs.Ytfjnmjibifefgaa
