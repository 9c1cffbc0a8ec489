/- The walk of the statement GridStarts of layer 14. -/
import Derived.Test.YteckddlcecleaaaRefStarts
import Derived.Test.YteckddlcecleaaaAwake14
import Derived.Deep.RegionHeld3
namespace Go.Proofs.Yteckddlcecleaaa
open Go.RowKit Vm Gm
set_option linter.unusedVariables false

namespace GridStarts
theorem keep {b : Nat} {x y z : Value} {w1 w2 w3 : World} (hx : w2.cell? ⟨b, 0, none⟩ = some x ∧ w2.cell? ⟨b, 1, none⟩ = some y ∧ w2.cell? ⟨b, 2, none⟩ = some z ∧ b < w2.heap.size ∧ Below w1.heap.size w1 w2) (h : Below w2.heap.size w2 w3) :
    w3.cell? ⟨b, 0, none⟩ = some x ∧ w3.cell? ⟨b, 1, none⟩ = some y ∧ w3.cell? ⟨b, 2, none⟩ = some z ∧ b < w3.heap.size ∧ Below w1.heap.size w1 w3 :=
  ⟨(h.cell (by exact hx.2.2.2.1)).trans hx.1, (h.cell (by exact hx.2.2.2.1)).trans hx.2.1, (h.cell (by exact hx.2.2.2.1)).trans hx.2.2.1, Nat.lt_of_lt_of_le hx.2.2.2.1 h.size, hx.2.2.2.2.trans (h.mono hx.2.2.2.2.size)⟩
theorem same {b : Nat} {x y z : Value} {w1 w2 : World} (hx : w2.cell? ⟨b, 0, none⟩ = some x ∧ w2.cell? ⟨b, 1, none⟩ = some y ∧ w2.cell? ⟨b, 2, none⟩ = some z ∧ b < w2.heap.size ∧ Below w1.heap.size w1 w2)
    (xs : List Int) (a c : Option Addr) (p q : Nat) (hl : xs.length ≤ 9223372036854775807) (ha : Sl w1 w1.heap.size a (i64s xs)) (hc : Sl w1 w1.heap.size c (i64s xs)) :
    Calls Try.prog 31 #[.slice a xs.length p, .slice c xs.length q] w2 fun e w' => e = .returned (.bool true) ∧ Below w2.heap.size w2 w' :=
  (same_at a c xs.length xs.length p q _ _ xs w2 rfl rfl hl (ha.below hx.2.2.2.2 (Nat.le_refl _)) (hc.below hx.2.2.2.2 (Nat.le_refl _))).mono fun e w' ⟨h1, h2⟩ => ⟨h1, h2.below _⟩
end GridStarts

set_option maxRecDepth 100000 in
set_option maxHeartbeats 4000000 in
theorem gridStarts_law (s h l t : Int) (w : World) (hs0 : (Lit.int .i64 s).wf = true) (hh0 : (Lit.int .i64 h).wf = true) (hl0 : (Lit.int .i64 l).wf = true) (ht0 : (Lit.int .i64 t).wf = true) :
    Calls Try.prog 12 #[gv s h l, .int .i64 t] w fun e w' => e = .returned (.bool true) ∧ Below w.heap.size w w' := by
  have hs := wf_i64 hs0
  have hh := wf_i64 hh0
  have hl := wf_i64 hl0
  have ht := wf_i64 ht0
  clear hs0 hh0 hl0 ht0
  have b0 : (w.alloc (.cells #[.int .i64 s, .int .i64 h, .int .i64 l] 54)).cell? ⟨w.heap.size, 0, none⟩ = some (.int .i64 s) ∧ (w.alloc (.cells #[.int .i64 s, .int .i64 h, .int .i64 l] 54)).cell? ⟨w.heap.size, 1, none⟩ = some (.int .i64 h) ∧ (w.alloc (.cells #[.int .i64 s, .int .i64 h, .int .i64 l] 54)).cell? ⟨w.heap.size, 2, none⟩ = some (.int .i64 l) ∧ w.heap.size < (w.alloc (.cells #[.int .i64 s, .int .i64 h, .int .i64 l] 54)).heap.size ∧ Below (w.alloc (.cells #[.int .i64 s, .int .i64 h, .int .i64 l] 54)).heap.size (w.alloc (.cells #[.int .i64 s, .int .i64 h, .int .i64 l] 54)) (w.alloc (.cells #[.int .i64 s, .int .i64 h, .int .i64 l] 54)) := by
    refine ⟨?_, ?_, ?_, by simp, Below.refl _ _⟩ <;> (rw [World.cell?_alloc_at _ _ _ _ rfl]; rfl)
  have B0 := Lib.hid b0
  have hbel : Below w.heap.size w (w.alloc (.cells #[.int .i64 s, .int .i64 h, .int .i64 l] 54)) := (Below.refl _ _).alloc (Nat.le_refl _) _
  clear b0
  by_cases hy : May s h l ∧ 0 ≤ t ∧ t ≤ 1099511627776
  · obtain ⟨hm, h0, h1⟩ := hy
    have HM := Lib.hid hm
    have H1 := Lib.hid (fun w => starts_yes s h l t w HM.out h0 h1)
    have H2 := Lib.hid (fun w => ref_starts_yes s h l t w HM.out h0 h1)
    obtain ⟨g1, g2, g3, g4, g5, g6, _, _⟩ := hm
    have hn8 : (starts s h t).length ≤ 9223372036854775807 := by
      rw [starts_length]; unfold cnt
      have : s / h ≤ s := Int.ediv_le_self _ (by omega)
      omega
    generalize hST : starts s h t = st at *
    have C1 := Lib.hid (fun w => check_yes s h l w HM.out)
    have C2 := Lib.hid (fun w => may_yes s h l w HM.out)
    clear hST g1 g2 g3 g4 g5 g6
    go_enter Try.func12, Try.ntmps12
    go_wp2_with fail
    refine (H1.out _).mono ?_
    rintro e w1 ⟨b1, a1, k1, rfl, o1⟩
    have sl := own_sl o1
    have K1 := GridStarts.keep B0.out b1
    have hb1 := hbel.trans (b1.mono hbel.size)
    obtain ⟨x0, x1, x2, x3, x4⟩ := K1
    clear o1 b1 B0 hbel
    go_wp2_with fail
    refine (H2.out _).mono ?_
    rintro e w2 ⟨b2, a2, k2, rfl, o2⟩
    have sl2 := own_sl o2
    have sl1 := sl.below b2 (Nat.le_refl _)
    have sl1' := sl1.grow b2.size
    have K2 := GridStarts.keep (⟨x0, x1, x2, x3, Below.refl _ _⟩) b2
    have hb2 := hb1.trans (b2.mono hb1.size)
    clear x0 x1 x2 x3 x4 o2 sl sl1 hb1 b2
    obtain ⟨x0, x1, x2, x3, x4⟩ := K2
    have hself : Below w2.heap.size w2 w2.drew := (Below.refl _ _).drew
    clear x4
    go_wp2_with fail
    go_region_held3 (fun w' => w'.cell? ⟨w.heap.size, 0, none⟩ = some (.int .i64 s) ∧ w'.cell? ⟨w.heap.size, 1, none⟩ = some (.int .i64 h) ∧ w'.cell? ⟨w.heap.size, 2, none⟩ = some (.int .i64 l) ∧ w.heap.size < w'.heap.size ∧ Below w2.heap.size w2 w') (first | assumption | exact ⟨x0, x1, x2, x3, hself⟩)
      (first
        | (go_at_call 31; refine (GridStarts.same (by assumption) st a1 a2 k1 k2 hn8 sl1' sl2).mono ?_; rintro e w3 ⟨rfl, h3⟩; have y := GridStarts.keep (by assumption) h3)
        | (go_at_call 32; refine (C1.out _).mono ?_; rintro e w3 ⟨rfl, h3⟩; have y := GridStarts.keep (by assumption) h3)
        | (go_at_call 33; refine (C2.out _).mono ?_; rintro e w3 ⟨rfl, h3⟩; have y := GridStarts.keep (by assumption) h3)
        | (go_at_call 34; refine (awake14_walk _).mono ?_; rintro e w3 ⟨rfl, h3⟩; have y := GridStarts.keep (by assumption) h3))
    all_goals
      go_wp2_with fail
      go_ret
      exact ⟨rfl, hb2.trans (y.2.2.2.2.mono hb2.size)⟩
  · have HM := Lib.hid (show ¬ May s h l ∨ t < 0 ∨ 1099511627776 < t by
      by_cases hm : May s h l
      · right
        apply Classical.byContradiction
        intro hc
        exact hy ⟨hm, by omega, by omega⟩
      · exact .inl hm)
    have H1 := Lib.hid (fun w => starts_no s h l t w hs hh hl HM.out)
    have H2 := Lib.hid (fun w => ref_starts_no s h l t w hs hh hl HM.out)
    obtain ⟨bm, CC, hbm⟩ : ∃ bm : Bool, (∃ ei : Int, (ei == 0) = bm ∧ (∀ w, Calls Try.prog 32 #[gv s h l] w fun e w' => e = .returned (.int .i64 ei) ∧ Below w.heap.size w w')) ∧ (∀ w, Calls Try.prog 33 #[gv s h l] w fun e w' => e = .returned (.bool bm) ∧ Below w.heap.size w w') := by
      by_cases hm : May s h l
      · exact ⟨true, ⟨0, rfl, fun w => check_yes s h l w hm⟩, fun w => may_yes s h l w hm⟩
      · exact ⟨false, ⟨1, rfl, fun w => check_no s h l w hs hh hl hm⟩, fun w => may_no s h l w hs hh hl hm⟩
    obtain ⟨ei, he, CC⟩ := CC
    have C1 := Lib.hid CC
    have C2 := Lib.hid hbm
    have hbb : (bm == bm) = true := by simp
    clear hy CC hbm
    have sl0 : Sl w w.heap.size none (i64s []) := .nil _ _ _
    go_enter Try.func12, Try.ntmps12
    go_wp2_with fail
    refine (H1.out _).mono ?_
    rintro e w1 ⟨rfl, b1⟩
    have K1 := GridStarts.keep B0.out b1
    have hb1 := hbel.trans (b1.mono hbel.size)
    obtain ⟨x0, x1, x2, x3, x4⟩ := K1
    clear b1 B0 hbel
    go_wp2_with fail
    refine (H2.out _).mono ?_
    rintro e w2 ⟨rfl, b2⟩
    have K2 := GridStarts.keep (⟨x0, x1, x2, x3, Below.refl _ _⟩) b2
    have hb2 := hb1.trans (b2.mono hb1.size)
    clear x0 x1 x2 x3 x4 hb1 b2
    obtain ⟨x0, x1, x2, x3, x4⟩ := K2
    have hself : Below w2.heap.size w2 w2.drew := (Below.refl _ _).drew
    have sn : Sl w2 w2.heap.size none (i64s []) := .nil _ _ _
    clear x4 sl0
    go_wp2_with fail
    go_region_held3 (fun w' => w'.cell? ⟨w.heap.size, 0, none⟩ = some (.int .i64 s) ∧ w'.cell? ⟨w.heap.size, 1, none⟩ = some (.int .i64 h) ∧ w'.cell? ⟨w.heap.size, 2, none⟩ = some (.int .i64 l) ∧ w.heap.size < w'.heap.size ∧ Below w2.heap.size w2 w') (first | assumption | exact ⟨x0, x1, x2, x3, hself⟩)
      (first
        | (go_at_call 31; refine (GridStarts.same (by assumption) [] none none 0 0 (by decide) sn sn).mono ?_; rintro e w3 ⟨rfl, h3⟩; have y := GridStarts.keep (by assumption) h3)
        | (go_at_call 32; refine (C1.out _).mono ?_; rintro e w3 ⟨rfl, h3⟩; have y := GridStarts.keep (by assumption) h3)
        | (go_at_call 33; refine (C2.out _).mono ?_; rintro e w3 ⟨rfl, h3⟩; have y := GridStarts.keep (by assumption) h3)
        | (go_at_call 34; refine (awake14_walk _).mono ?_; rintro e w3 ⟨rfl, h3⟩; have y := GridStarts.keep (by assumption) h3))
    all_goals
      go_wp2_with fail
      go_ret
      exact ⟨rfl, hb2.trans (y.2.2.2.2.mono hb2.size)⟩
end Go.Proofs.Yteckddlcecleaaa
