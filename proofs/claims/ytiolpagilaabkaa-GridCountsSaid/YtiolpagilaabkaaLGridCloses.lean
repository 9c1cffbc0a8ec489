/- The walk of the statement GridCloses of layer 14. -/
import Derived.Test.YtiolpagilaabkaaGridClosed
import Derived.Deep.RegionHeld3
namespace Go.Proofs.Ytiolpagilaabkaa
open Go.RowKit Vm Gm
set_option linter.unusedVariables false

/-- The box of a grid, in block b. -/
def Box (b : Nat) (s h l : Int) (w : World) : Prop :=
  w.cell? ⟨b, 0, none⟩ = some (.int .i64 s) ∧ w.cell? ⟨b, 1, none⟩ = some (.int .i64 h) ∧ w.cell? ⟨b, 2, none⟩ = some (.int .i64 l)
theorem Box.start (w : World) (s h l : Int) : Box w.heap.size s h l (w.alloc (.cells #[.int .i64 s, .int .i64 h, .int .i64 l] 40)) := by
  refine ⟨?_, ?_, ?_⟩ <;> (rw [World.cell?_alloc_at _ _ _ _ rfl]; rfl)
theorem Box.below {b : Nat} {s h l : Int} {w w' : World} (hx : Box b s h l w) (hb : Below w.heap.size w w') (hlt : b < w.heap.size) : Box b s h l w' :=
  ⟨(hb.cell (by exact hlt)).trans hx.1, (hb.cell (by exact hlt)).trans hx.2.1, (hb.cell (by exact hlt)).trans hx.2.2⟩

theorem box_keep {b : Nat} {x y z : Value} {w1 w2 w3 : World} (hx : w2.cell? ⟨b, 0, none⟩ = some x ∧ w2.cell? ⟨b, 1, none⟩ = some y ∧ w2.cell? ⟨b, 2, none⟩ = some z ∧ b < w2.heap.size ∧ Below w1.heap.size w1 w2) (h : Below w2.heap.size w2 w3) :
    w3.cell? ⟨b, 0, none⟩ = some x ∧ w3.cell? ⟨b, 1, none⟩ = some y ∧ w3.cell? ⟨b, 2, none⟩ = some z ∧ b < w3.heap.size ∧ Below w1.heap.size w1 w3 :=
  ⟨(h.cell (by exact hx.2.2.2.1)).trans hx.1, (h.cell (by exact hx.2.2.2.1)).trans hx.2.1, (h.cell (by exact hx.2.2.2.1)).trans hx.2.2.1, Nat.lt_of_lt_of_le hx.2.2.2.1 h.size, hx.2.2.2.2.trans (h.mono hx.2.2.2.2.size)⟩

set_option maxRecDepth 100000 in
set_option maxHeartbeats 2000000 in
theorem gridCloses_law (s h l a m : Int) (w : World) (hs0 : (Lit.int .i64 s).wf = true) (hh0 : (Lit.int .i64 h).wf = true) (hl0 : (Lit.int .i64 l).wf = true) (ha0 : (Lit.int .i64 a).wf = true) (hm0 : (Lit.int .i64 m).wf = true) :
    Calls Try.prog 10 #[gv s h l, .int .i64 a, .int .i64 m] w fun e w' => e = .returned (.bool true) ∧ Below w.heap.size w w' := by
  have hs := wf_i64 hs0
  have hh := wf_i64 hh0
  have hl := wf_i64 hl0
  have ha := wf_i64 ha0
  have hm := wf_i64 hm0
  have hq : (closedB s h l a m == closedB s h l a m) = true := beq_self_eq_true _
  obtain ⟨B, hB⟩ : ∃ B, B = closedB s h l a m := ⟨_, rfl⟩
  have C1 := Lib.hid (fun w => closed_walk s h l a m w hs hh hl ha hm)
  have C2 := Lib.hid (fun w => ref_closed_walk s h l a m w hs hh hl ha hm)
  rw [← hB] at C1 C2 hq
  have Hx := Lib.hid (Box.start w s h l)
  clear hs0 hh0 hl0 ha0 hm0 hB
  go_enter Try.func10, Try.ntmps10
  go_wp2
  have hbel : Below w.heap.size w (w.alloc (.cells #[.int .i64 s, .int .i64 h, .int .i64 l] 40)) := (Below.refl _ _).alloc (Nat.le_refl _) _
  obtain ⟨x0, x1, x2⟩ := Hx.out
  have hsz : w.heap.size < (w.alloc (.cells #[.int .i64 s, .int .i64 h, .int .i64 l] 40)).heap.size := by simp
  generalize w.alloc (.cells #[.int .i64 s, .int .i64 h, .int .i64 l] 40) = w1 at *
  have hself : Below w1.heap.size w1 w1.drew := (Below.refl _ _).drew
  go_region_held3 (fun w' => w'.cell? ⟨w.heap.size, 0, none⟩ = some (.int .i64 s) ∧ w'.cell? ⟨w.heap.size, 1, none⟩ = some (.int .i64 h) ∧ w'.cell? ⟨w.heap.size, 2, none⟩ = some (.int .i64 l) ∧ w.heap.size < w'.heap.size ∧ Below w1.heap.size w1 w') (first | assumption | exact ⟨x0, x1, x2, hsz, hself⟩)
    (first
      | (go_at_call 32; refine (C1.out _).mono ?_; rintro e w3 ⟨rfl, h3⟩; have y := box_keep (by assumption) h3)
      | (go_at_call 33; refine (C2.out _).mono ?_; rintro e w3 ⟨rfl, h3⟩; have y := box_keep (by assumption) h3)
      | (go_at_call 31; refine (awake14_walk _).mono ?_; rintro e w3 ⟨rfl, h3⟩; have y := box_keep (by assumption) h3))
  all_goals
    go_wp2_with fail
    go_ret
    exact ⟨rfl, hbel.trans (y.2.2.2.2.mono hbel.size)⟩
end Go.Proofs.Ytiolpagilaabkaa
