/- The walk of the statement GridStays of layer 14. -/
import Derived.Test.YtiolpagilaabkaaLGridCloses
namespace Go.Proofs.Ytiolpagilaabkaa
open Go.RowKit Vm Gm
set_option linter.unusedVariables false

theorem mask20 (x : Int) : ∃ y : Int, bits .and .i64 x 1048575 = y ∧ 0 ≤ y ∧ y ≤ 1048575 := by
  refine ⟨_, rfl, ?_⟩
  have h2 : (BitVec.ofInt 64 (1048575 : Int)).toNat = 1048575 := by decide
  have h3 : (BitVec.ofInt 64 x &&& BitVec.ofInt 64 (1048575 : Int)).toNat ≤ 1048575 := by
    rw [BitVec.toNat_and, h2]; exact Nat.and_le_right
  have e : bits .and .i64 x 1048575 = IntKind.i64.wrap ((BitVec.ofInt 64 x &&& BitVec.ofInt 64 (1048575 : Int)).toNat : Int) := rfl
  rw [e, IntKind.wrap_i64]
  omega
theorem box_step {b : Nat} {s h l : Int} {w1 w2 w3 : World} (hx : Box b s h l w2 ∧ b < w2.heap.size ∧ Below w1.heap.size w1 w2) (h3 : Below w2.heap.size w2 w3) : Box b s h l w3 ∧ b < w3.heap.size ∧ Below w1.heap.size w1 w3 :=
  ⟨hx.1.below h3 hx.2.1, Nat.lt_of_lt_of_le hx.2.1 h3.size, hx.2.2.trans (h3.mono hx.2.2.size)⟩
theorem closedB_of {s h l a m : Int} (h1 : closedB s h l a m = true) : May s h l ∧ 0 ≤ m ∧ a ≤ m - s - l := of_decide_eq_true h1

set_option maxRecDepth 100000 in
set_option maxHeartbeats 4000000 in
theorem gridStays_law (s h l a m mo le : Int) (w : World) (hs0 : (Lit.int .i64 s).wf = true) (hh0 : (Lit.int .i64 h).wf = true) (hl0 : (Lit.int .i64 l).wf = true) (ha0 : (Lit.int .i64 a).wf = true) (hm0 : (Lit.int .i64 m).wf = true) (hmo0 : (Lit.int .i64 mo).wf = true) (hle0 : (Lit.int .i64 le).wf = true) :
    Calls Try.prog 13 #[gv s h l, .int .i64 a, .int .i64 m, .int .i64 mo, .int .i64 le] w fun e w' => e = .returned (.bool true) ∧ Below w.heap.size w w' := by
  have hs := wf_i64 hs0
  have hh := wf_i64 hh0
  have hl := wf_i64 hl0
  have ha := wf_i64 ha0
  have hm := wf_i64 hm0
  have Hx := Lib.hid (Box.start w s h l)
  clear hs0 hh0 hl0 ha0 hm0 hmo0 hle0
  have hbel : Below w.heap.size w (w.alloc (.cells #[.int .i64 s, .int .i64 h, .int .i64 l] 40)) := (Below.refl _ _).alloc (Nat.le_refl _) _
  have hsz : w.heap.size < (w.alloc (.cells #[.int .i64 s, .int .i64 h, .int .i64 l] 40)).heap.size := by simp
  by_cases hout : m < 0 ∨ 2199023255552 < m ∨ a < 0 ∨ 2199023255552 < a
  · rcases hout with ho | ho | ho | ho
    all_goals
      clear hs hh hl ha hm
      go_enter Try.func13, Try.ntmps13
      go_wp2_with (go_at_call 31; refine (awake14_walk _).mono ?_; rintro e w3 ⟨rfl, h3⟩)
      all_goals
        go_ret
        exact ⟨rfl, hbel.trans (h3.mono hbel.size)⟩
  · obtain ⟨x, hx, hx0, hx1⟩ := mask20 mo
    obtain ⟨y, hy, hy0, hy1⟩ := mask20 le
    have b1 : 0 ≤ m := by omega
    have b2 : m ≤ 2199023255552 := by omega
    have b3 : 0 ≤ a := by omega
    have b4 : a ≤ 2199023255552 := by omega
    have hmx : I64 (m + x) := by unfold I64; omega
    have hay : I64 (a - y) := by unfold I64; omega
    have C1 := Lib.hid (fun w => closed_walk s h l a m w hs hh hl ha hm)
    have C2 := Lib.hid (fun w => closed_walk s h l a (m + x) w hs hh hl ha hmx)
    have C3 := Lib.hid (fun w => closed_walk s h l (a - y) m w hs hh hl hay hm)
    have hself : ∀ w1 : World, Below w1.heap.size w1 w1 := fun w1 => Below.refl _ _
    have hX : Box w.heap.size s h l (w.alloc (.cells #[.int .i64 s, .int .i64 h, .int .i64 l] 40)) ∧ w.heap.size < (w.alloc (.cells #[.int .i64 s, .int .i64 h, .int .i64 l] 40)).heap.size ∧ Below (w.alloc (.cells #[.int .i64 s, .int .i64 h, .int .i64 l] 40)).heap.size (w.alloc (.cells #[.int .i64 s, .int .i64 h, .int .i64 l] 40)) (w.alloc (.cells #[.int .i64 s, .int .i64 h, .int .i64 l] 40)) := ⟨Hx.out, hsz, hself _⟩
    have HX := Lib.hid hX
    clear hX hout
    by_cases hc : closedB s h l a m = true
    · obtain ⟨hy, _, hle⟩ := closedB_of hc
      have e2 := closedB_yes (s := s) (h := h) (l := l) (a := a) (m := m + x) hy (by omega) (by omega)
      have e3 := closedB_yes (s := s) (h := h) (l := l) (a := a - y) (m := m) hy (by omega) (by omega)
      rw [hc] at C1
      rw [e2] at C2
      rw [e3] at C3
      have HY := Lib.hid hy
      obtain ⟨g1, g2, _, _, g5, g6, _, _⟩ := hy
      clear hc e2 e3
      go_enter Try.func13, Try.ntmps13
      go_wp2_with fail
      refine (C1.out _).mono ?_
      rintro e w2 ⟨rfl, q1⟩
      have X2 := box_step HX.out q1
      obtain ⟨⟨z0, z1, z2⟩, _, _⟩ := id X2
      go_wp2_with fail
      refine (C2.out _).mono ?_
      rintro e w3 ⟨rfl, q2⟩
      have X3 := box_step X2 q2
      clear z0 z1 z2 X2
      obtain ⟨⟨z0, z1, z2⟩, _, _⟩ := id X3
      go_wp2_with fail
      refine (C3.out _).mono ?_
      rintro e w4 ⟨rfl, q3⟩
      have X4 := box_step X3 q3
      clear z0 z1 z2 X3
      obtain ⟨⟨z0, z1, z2⟩, _, _⟩ := id X4
      go_wp2_with fail
      refine (check_yes s h l _ HY.out).mono ?_
      rintro e w5 ⟨rfl, q4⟩
      have X5 := box_step X4 q4
      clear z0 z1 z2 X4
      obtain ⟨⟨z0, z1, z2⟩, _, _⟩ := id X5
      have hfin : s + l ≤ m - a := by omega
      go_wp2_with fail
      refine (awake14_walk _).mono ?_
      rintro e w6 ⟨rfl, q5⟩
      have X6 := box_step X5 q5
      go_wp2_with fail
      go_ret
      exact ⟨rfl, hbel.trans (X6.2.2.mono hbel.size)⟩
    · have hcf : closedB s h l a m = false := by simpa using hc
      rw [hcf] at C1
      clear hc hcf C2 C3
      by_cases hM : May s h l
      · have HM := Lib.hid hM
        clear hM
        go_enter Try.func13, Try.ntmps13
        go_wp2_with fail
        refine (C1.out _).mono ?_
        rintro e w2 ⟨rfl, q1⟩
        have X2 := box_step HX.out q1
        obtain ⟨⟨z0, z1, z2⟩, _, _⟩ := id X2
        go_wp2_with fail
        refine (check_yes s h l _ HM.out).mono ?_
        rintro e w5 ⟨rfl, q4⟩
        have X5 := box_step X2 q4
        clear z0 z1 z2 X2
        go_wp2_with fail
        refine (awake14_walk _).mono ?_
        rintro e w6 ⟨rfl, q5⟩
        have X6 := box_step X5 q5
        go_wp2_with fail
        go_ret
        exact ⟨rfl, hbel.trans (X6.2.2.mono hbel.size)⟩
      · have HM := Lib.hid hM
        clear hM
        go_enter Try.func13, Try.ntmps13
        go_wp2_with fail
        refine (C1.out _).mono ?_
        rintro e w2 ⟨rfl, q1⟩
        have X2 := box_step HX.out q1
        obtain ⟨⟨z0, z1, z2⟩, _, _⟩ := id X2
        go_wp2_with fail
        refine (check_no s h l _ hs hh hl HM.out).mono ?_
        rintro e w5 ⟨rfl, q4⟩
        have X5 := box_step X2 q4
        clear z0 z1 z2 X2
        go_wp2_with fail
        refine (awake14_walk _).mono ?_
        rintro e w6 ⟨rfl, q5⟩
        have X6 := box_step X5 q5
        go_wp2_with fail
        go_ret
        exact ⟨rfl, hbel.trans (X6.2.2.mono hbel.size)⟩
end Go.Proofs.Ytiolpagilaabkaa
