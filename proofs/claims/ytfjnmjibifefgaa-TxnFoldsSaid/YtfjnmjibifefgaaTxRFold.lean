/- The walk of headgateref12.Fold. -/
import Derived.Test.YtfjnmjibifefgaaTxRTurn
import Derived.Test.YtfjnmjibifefgaaTxRPut
import Derived.Test.YtfjnmjibifefgaaTxCode
namespace Go.Proofs.Ytfjnmjibifefgaa
open Go.RowKit Vm
set_option linter.unusedVariables false
set_option linter.unusedSimpArgs false

def RfPost (w : World) (D : List Tr) (E : Int) (e : Ending) (w' : World) : Prop := ∃ a c, e = .returned (.tuple #[.slice a D.length c, .int .i64 E]) ∧ Sl w' w'.heap.size a (trCells D) ∧ Below w.heap.size w w'
set_option maxRecDepth 100000 in
set_option maxHeartbeats 8000000 in
theorem rfold12_walk (l : List Tr) (N : Nat) (a : Option Addr) (c B : Nat) (k p m : Int) (w : World) (D : List Tr) (E : Int) (hN : l.length = N) (hNm : N ≤ 2000) (hM : ∀ x ∈ l, 0 ≤ x.m ∧ x.m < 8192) (hT : FdIs l k p m D E) (h : Sl w B a (trCells l)) (hB : B ≤ w.heap.size) (hac : (a = none → c = 0) ∧ N ≤ c) :
    Calls Try.prog 27 #[.slice a N c, .agg #[.int .i64 k, .int .i64 p, .int .i64 m]] w (RfPost w D E) := by
  have hal := balloc w (.cells #[.int .i64 k, .int .i64 p, .int .i64 m] 50)
  have hW := Whole.new w 50 #[.int .i64 k, .int .i64 p, .int .i64 m]
  have hzz : w.heap.size < (w.alloc (.cells #[.int .i64 k, .int .i64 p, .int .i64 m] 50)).heap.size := by simp
  have h' := h.below hal hB
  have hB' : B ≤ (w.alloc (.cells #[.int .i64 k, .int .i64 p, .int .i64 m] 50)).heap.size := by omega
  have HT := Lib.hid hT
  by_cases hm : ¬ MayN k p m
  · obtain ⟨rfl, rfl⟩ : D = [] ∧ E = 1 := by
      rcases HT.out with ⟨_, h1, h2⟩ | ⟨hg, _⟩ | ⟨hg, _⟩
      · exact ⟨h1, h2⟩
      · exact absurd hg.1 hm
      · exact absurd hg.1 hm
    have H1 := Lib.hid (fun w => rmay12_walk k p m false w (.inr ⟨hm, rfl⟩))
    clear hT HT hm h h'
    go_enter Try.func27, Try.ntmps27
    go_wp2_with fail
    refine (H1.out _).mono ?_
    rintro e w1 ⟨rfl, g1⟩
    go_wp2_with fail
    go_ret2
    exact ⟨none, 0, rfl, .inl rfl, gtrans hal g1⟩
  have hm := Classical.not_not.1 hm
  have H1 := Lib.hid (fun w => rmay12_walk k p m true w (.inl ⟨hm, rfl⟩))
  by_cases hr : ¬ RightT l
  · obtain ⟨rfl, rfl⟩ : D = [] ∧ E = 1 := by
      rcases HT.out with ⟨_, h1, h2⟩ | ⟨hg, _⟩ | ⟨hg, _⟩
      · exact ⟨h1, h2⟩
      · exact absurd hg.2 hr
      · exact absurd hg.2 hr
    have H2 := Lib.hid (fun w1 (h1 : Sl w1 B a (trCells l)) (hB1 : B ≤ w1.heap.size) => rright_walk l N a c B w1 false hN hNm (.inr ⟨hr, rfl⟩) h1 hB1)
    clear hT HT hm h hr
    go_enter Try.func27, Try.ntmps27
    go_wp2_with fail
    refine (H1.out _).mono ?_
    rintro e w1 ⟨rfl, g1⟩
    go_wp2_with fail
    refine (H2.out _ (h'.below g1 hB') (Nat.le_trans hB' g1.size)).mono ?_
    rintro e w2 ⟨rfl, g2⟩
    go_wp2_with fail
    go_ret2
    exact ⟨none, 0, rfl, .inl rfl, gtrans (gtrans hal g1) g2⟩
  have hr := Classical.not_not.1 hr
  have H2 := Lib.hid (fun w1 (h1 : Sl w1 B a (trCells l)) (hB1 : B ≤ w1.heap.size) => rright_walk l N a c B w1 true hN hNm (.inl ⟨hr, rfl⟩) h1 hB1)
  have HP := Lib.hid (fun x w1 (h1 : Sl w1 B a (trCells l)) (hB1 : B ≤ w1.heap.size) => rput12_walk l N a c B x w1 hN hNm hr h1 hB1 hac)
  unfold RpPost at HP
  have hk15 := hm.1
  have hm0 : 0 ≤ m ∧ m < 8192 := by have := hm.2.2; omega
  cases hg : getR trKey l p with
  | none =>
    have H3 := Lib.hid (fun w1 (h1 : Sl w1 B a (trCells l)) (hB1 : B ≤ w1.heap.size) => rrow_walk l N a c B p w1 tr0 3 hN hNm (.inr ⟨hg, rfl, rfl⟩) h1 hB1)
    unfold RrPost tr0 at H3
    have hD : (1 < k ∧ D = [] ∧ E = 3) ∨ (k = 1 ∧ D = putR trKey l ⟨p, 1, 1, 0, 0⟩ ∧ E = 0) := by
      rcases HT.out with ⟨h1, _⟩ | ⟨_, _, ⟨h1, h2⟩ | h1⟩ | ⟨_, x, h1, _⟩
      · exact absurd ⟨hm, hr⟩ h1
      · exact .inl ⟨by omega, h2⟩
      · exact .inr h1
      · rw [hg] at h1; cases h1
    clear hT HT hm h hr hg
    rcases hD with ⟨hk, rfl, rfl⟩ | ⟨rfl, hD, rfl⟩
    all_goals
      go_enter Try.func27, Try.ntmps27
      go_wp2_with fail
      refine (H1.out _).mono ?_
      rintro e w1 ⟨rfl, g1⟩
      have s1 := h'.below g1 hB'
      have z1 := Nat.le_trans hB' g1.size
      have W1 := hW.keep g1
      have x1 := W1.cell 1
      simp only [List.getElem?_toArray, List.getElem?_cons_zero, List.getElem?_cons_succ] at x1
      go_wp2_with fail
      refine (H2.out _ s1 z1).mono ?_
      rintro e w2 ⟨rfl, g2⟩
      have s2 := s1.below g2 z1
      have z2 := Nat.le_trans z1 g2.size
      have W2 := W1.keep g2
      have x1 := W2.cell 1
      simp only [List.getElem?_toArray, List.getElem?_cons_zero, List.getElem?_cons_succ] at x1
      go_wp2_with fail
      refine (H3.out _ s2 z2).mono ?_
      rintro e w3 ⟨rfl, g3⟩
      have hal3 := balloc w3 (.cells #[.int .i64 0, .int .i64 0, .int .i64 0, .int .i64 0, .int .i64 0] 52)
      have s3 := (s2.below g3 z2).below hal3 (Nat.le_trans z2 g3.size)
      have z3 := Nat.le_trans (Nat.le_trans z2 g3.size) hal3.size
      have W3 := (W2.keep g3).keep hal3
      have hz3 := W3.lt
      have x0 := W3.cell 0
      have x1 := W3.cell 1
      simp only [List.getElem?_toArray, List.getElem?_cons_zero, List.getElem?_cons_succ] at x0 x1
      have b3 := gtrans (gtrans (gtrans (gtrans hal g1) g2) g3) hal3
      have hzw : w.heap.size < w3.heap.size := by have := g1.size; have := g2.size; have := g3.size; omega
      clear g1 g2 g3 hal3 s1 s2 W1 W2 W3
      go_wp2_with fail
    · go_ret2
      exact ⟨none, 0, rfl, .inl rfl, b3⟩
    · refine (HP.out ⟨p, 1, 1, 0, 0⟩ _ s3 z3).mono ?_
      rintro e w4 ⟨a4, c4, rfl, s4, g4⟩
      go_wp2_with fail
      go_ret2
      exact ⟨a4, c4, by rw [hD]; rfl, by rw [hD]; exact s4, gtrans b3 g4⟩
  | some x =>
    have H3 := Lib.hid (fun w1 (h1 : Sl w1 B a (trCells l)) (hB1 : B ≤ w1.heap.size) => rrow_walk l N a c B p w1 x 0 hN hNm (.inl ⟨hg, rfl⟩) h1 hB1)
    unfold RrPost at H3
    obtain ⟨hxm, _⟩ := getR_some trKey hg
    obtain ⟨Y, F, hY⟩ := tuIs_ex x k m
    have hxe : 1 ≤ x.e ∧ x.e ≤ 1099511627776 := by
      obtain ⟨q, hq, hqe⟩ := List.getElem_of_mem hxm
      have := hr q hq
      unfold OkT at this
      rw [show l.getD q tr0 = x by rw [← hqe]; simp [List.getD, List.getElem?_eq_getElem hq]] at this
      omega
    have H4 := Lib.hid (fun w1 => rturn_walk x k p m w1 Y F hY hk15 hxe hm0 (hM x hxm))
    unfold RrPost at H4
    have hD : (F = 9 ∧ D = [] ∧ E = 9) ∨ (F = 0 ∧ 1099511627776 < Y.e ∧ D = [] ∧ E = 6) ∨ (F = 0 ∧ ¬ 1099511627776 < Y.e ∧ D = putR trKey l Y ∧ E = 0) := by
      rcases HT.out with ⟨h1, _⟩ | ⟨_, h1, _⟩ | ⟨_, z, h1, ⟨h2, h3⟩ | ⟨y, h2, h3⟩⟩
      · exact absurd ⟨hm, hr⟩ h1
      · rw [hg] at h1; cases h1
      · rw [hg] at h1; injection h1 with h1; subst h1
        exact .inl ⟨(tuIs_none hY h2).2, h3⟩
      · rw [hg] at h1; injection h1 with h1; subst h1
        obtain ⟨rfl, rfl⟩ := tuIs_some hY h2
        rcases h3 with h3 | h3
        · exact .inr (.inl ⟨rfl, h3⟩)
        · exact .inr (.inr ⟨rfl, by omega, h3.2⟩)
    clear hT HT hm h hr hg hY hM hxm
    obtain ⟨xp, xe, xs, xm, xl⟩ := x
    obtain ⟨Yp, Ye, Ys, Ym, Yl⟩ := Y
    simp only at H3 H4 hD
    rcases hD with ⟨rfl, rfl, rfl⟩ | ⟨rfl, hye, rfl, rfl⟩ | ⟨rfl, hye, hD, rfl⟩
    all_goals
      go_enter Try.func27, Try.ntmps27
      go_wp2_with fail
      refine (H1.out _).mono ?_
      rintro e w1 ⟨rfl, g1⟩
      have s1 := h'.below g1 hB'
      have z1 := Nat.le_trans hB' g1.size
      have W1 := hW.keep g1
      have x1 := W1.cell 1
      simp only [List.getElem?_toArray, List.getElem?_cons_zero, List.getElem?_cons_succ] at x1
      go_wp2_with fail
      refine (H2.out _ s1 z1).mono ?_
      rintro e w2 ⟨rfl, g2⟩
      have s2 := s1.below g2 z1
      have z2 := Nat.le_trans z1 g2.size
      have W2 := W1.keep g2
      have x1 := W2.cell 1
      simp only [List.getElem?_toArray, List.getElem?_cons_zero, List.getElem?_cons_succ] at x1
      go_wp2_with fail
      refine (H3.out _ s2 z2).mono ?_
      rintro e w3 ⟨rfl, g3⟩
      have hal3 := balloc w3 (.cells #[.int .i64 xp, .int .i64 xe, .int .i64 xs, .int .i64 xm, .int .i64 xl] 52)
      have s3 := (s2.below g3 z2).below hal3 (Nat.le_trans z2 g3.size)
      have z3 := Nat.le_trans (Nat.le_trans z2 g3.size) hal3.size
      have W3 := (W2.keep g3).keep hal3
      have hz3 := W3.lt
      have x0 := W3.cell 0
      have x1 := W3.cell 1
      have x2 := W3.cell 2
      simp only [List.getElem?_toArray, List.getElem?_cons_zero, List.getElem?_cons_succ] at x0 x1 x2
      have b3 := gtrans (gtrans (gtrans (gtrans hal g1) g2) g3) hal3
      have hzw : w.heap.size < w3.heap.size := by have := g1.size; have := g2.size; have := g3.size; omega
      clear g1 g2 g3 hal3 s1 s2 W1 W2
      go_wp2_with fail
      refine (H4.out _).mono ?_
      rintro e w4 ⟨rfl, g4⟩
      have hal4 := balloc w4 (.cells #[.int .i64 Yp, .int .i64 Ye, .int .i64 Ys, .int .i64 Ym, .int .i64 Yl] 52)
      have s4 := (s3.below g4 z3).below hal4 (Nat.le_trans z3 g4.size)
      have z4 := Nat.le_trans (Nat.le_trans z3 g4.size) hal4.size
      have b4 := gtrans (gtrans b3 g4) hal4
      clear g4 hal4 s3 x0 x1 x2
      go_wp2_with fail
    · go_ret2
      exact ⟨none, 0, rfl, .inl rfl, b4⟩
    · go_ret2
      exact ⟨none, 0, rfl, .inl rfl, b4⟩
    · refine (HP.out ⟨Yp, Ye, Ys, Ym, Yl⟩ _ s4 z4).mono ?_
      rintro e w5 ⟨a5, c5, rfl, s5, g5⟩
      go_wp2_with fail
      go_ret2
      exact ⟨a5, c5, by rw [hD]; rfl, by rw [hD]; exact s5, gtrans b4 g5⟩
end Go.Proofs.Ytfjnmjibifefgaa
