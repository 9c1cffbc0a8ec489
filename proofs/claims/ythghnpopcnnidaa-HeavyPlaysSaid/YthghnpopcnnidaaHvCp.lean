/- The walk of heavy's Copy. -/
import Derived.Test.YthghnpopcnnidaaHvTell
import Derived.Deep.RegionHeld3
namespace Go.Proofs.Ythghnpopcnnidaa
open Go.RowKit Vm
set_option linter.unusedVariables false
set_option linter.unusedSimpArgs false

theorem own_baseN {w : World} {base base' n size : Nat} {v : Value} {e : TypeId} {xs : List Value} (h : w.ownsRow base e size v n xs) (hb : base' ≤ base) : w.ownsRow base' e size v n xs := by
  obtain ⟨hl, hr⟩ := h
  rcases hr with h0 | ⟨g, cap, cur, hv, hg, r⟩
  · exact ⟨hl, .inl h0⟩
  · exact ⟨hl, .inr ⟨g, cap, cur, hv, Nat.le_trans hb hg, r⟩⟩
def HeldC (g : Nat) (v0 v1 v2 : Value) (w W' : World) : Prop := W'.cell? ⟨g, 0, none⟩ = some v0 ∧ W'.cell? ⟨g, 1, none⟩ = some v1 ∧ W'.cell? ⟨g, 2, none⟩ = some v2 ∧ Below w.heap.size w W'
theorem heldC {g : Nat} {w W' w5 : World} {v0 v1 v2 : Value} (h : W'.cell? ⟨g, 0, none⟩ = some v0 ∧ W'.cell? ⟨g, 1, none⟩ = some v1 ∧ W'.cell? ⟨g, 2, none⟩ = some v2 ∧ Below w.heap.size w W') (b : Below W'.heap.size W' w5) :
    w5.cell? ⟨g, 0, none⟩ = some v0 ∧ w5.cell? ⟨g, 1, none⟩ = some v1 ∧ w5.cell? ⟨g, 2, none⟩ = some v2 ∧ Below w.heap.size w w5 :=
  ⟨(b.cell (cell_lt h.1)).trans h.1, (b.cell (cell_lt h.2.1)).trans h.2.1, (b.cell (cell_lt h.2.2.1)).trans h.2.2.1, gtrans h.2.2.2 b⟩
def CpQ (H : Hv) (w : World) (e : Ending) (w' : World) : Prop := ∃ g S, e = .returned (.pointer (some ⟨g, 0, none⟩)) ∧ HA w' g H S ∧ Hid (∀ k, S k → w.heap.size ≤ k) ∧ Below w.heap.size w w'
theorem cp_end {H : Hv} {w w5 : World} {a : Option Addr} {c : Nat} (ho : w5.ownsRow w.heap.size 45 3 (.slice a H.L.length c) H.L.length (taCells H.L)) (hb : Below w.heap.size w w5) :
    CpQ H w (.returned (.pointer (some ⟨w5.heap.size, 0, none⟩))) (w5.alloc (.cells #[.int .i64 (H.m : Int), .int .i64 (H.s : Int), .slice a H.L.length c] 52)) := by
  have hal := balloc w5 (.cells #[.int .i64 (H.m : Int), .int .i64 (H.s : Int), .slice a H.L.length c] 52)
  have hlo := own_low ho
  refine ⟨_, HF w5.heap.size a, rfl, ⟨a, c, ⟨Whole.new w5 _ _, own_keep (own_baseN ho (Nat.zero_le _)) hal⟩, rfl⟩, Lib.hid ?_, gtrans hb hal⟩
  rintro k (rfl | ⟨x, hx, rfl⟩)
  · exact hb.size
  · exact (hlo x hx).1
set_option maxRecDepth 100000 in
set_option maxHeartbeats 4000000 in
theorem copy_ha (K : Nat) (H : Hv) (g : Nat) (S : Nat → Prop) (w : World) (hok : HOk H K) (h : HA w g H S) :
    Calls Try.prog 23 #[.pointer (some ⟨g, 0, none⟩)] w (CpQ H w) := by
  obtain ⟨a, c, h, rfl⟩ := h
  have hl := hok.len
  have hm := hok.m1
  have HE := Lib.hid (fun (w5 : World) (a' : Option Addr) (c' : Nat) ho hb => cp_end (H := H) (w := w) (w5 := w5) (a := a') (c := c') ho hb)
  obtain ⟨m0, m1, m2, _⟩ := h.three
  have hsl := ownN_sl h.row
  have HS : Sl w w.heap.size a (taCells H.L) := hsl
  have HC := Lib.hid (fun (W' : World) (hb : Below w.heap.size w W') => clone_ta H.L H.L.length a c w.heap.size W' rfl (by omega) (HS.below hb (Nat.le_refl _)) hb.size)
  have hS0 : w.drew.cell? ⟨g, 0, none⟩ = some (.int .i64 (H.m : Int)) ∧ w.drew.cell? ⟨g, 1, none⟩ = some (.int .i64 (H.s : Int)) ∧ w.drew.cell? ⟨g, 2, none⟩ = some (.slice a H.L.length c) ∧ Below w.heap.size w w.drew := ⟨m0, m1, m2, below_drewN _ w 1⟩
  have hgl := h.lt
  generalize taCells H.L = cs at *
  generalize H.L.length = n at *
  generalize (H.m : Int) = m at *
  generalize (H.s : Int) = s at *
  clear h hsl HS hl hm hok m0 m1 m2
  go_enter Try.func23, Try.ntmps23
  go_wp2_with fail
  go_region_held3 (fun w' => w'.cell? ⟨g, 0, none⟩ = some (.int .i64 m) ∧ w'.cell? ⟨g, 1, none⟩ = some (.int .i64 s) ∧ w'.cell? ⟨g, 2, none⟩ = some (.slice a n c) ∧ Below w.heap.size w w')
    (first | with_reducible assumption | exact heldC (by with_reducible assumption) (balloc _ _))
    (first | (go_at_call 30; refine (HC.out _ (And.right (And.right (And.right (by with_reducible assumption))))).mono ?_; rintro e w5 ⟨a', c', rfl, ho, g5⟩; have yo := own_baseN ho (Below.size (And.right (And.right (And.right (by with_reducible assumption))))); have y := heldC (by with_reducible assumption) g5))
  all_goals
    have hfin := HE.out _ _ _ yo y.2.2.2
    clear hgl
    go_wp2_with fail
    go_ret
    exact hfin
theorem copy_nil (w : World) : Calls Try.prog 23 #[.pointer none] w fun e w' => e = .returned (.pointer none) ∧ w' = w := by
  go_enter Try.func23, Try.ntmps23
  go_wp2_with fail
  go_ret
  exact ⟨rfl, rfl⟩
theorem seen_nil (w : World) : Calls Try.prog 17 #[.pointer none] w fun e w' => e = .returned (.int .i64 0) ∧ w' = w := by
  go_enter Try.func17, Try.ntmps17
  go_wp2_with fail
  go_ret
  exact ⟨rfl, rfl⟩
theorem top_nil (n : Int) (w : World) : Calls Try.prog 19 #[.pointer none, .int .i64 n] w fun e w' => e = .returned (.slice none 0 0) ∧ w' = w := by
  go_enter Try.func19, Try.ntmps19
  go_wp2_with fail
  go_ret
  exact ⟨rfl, rfl⟩
theorem top_low (n : Int) (H : Hv) (g : Nat) (w : World) (h : n < 1) : Calls Try.prog 19 #[.pointer (some ⟨g, 0, none⟩), .int .i64 n] w fun e w' => e = .returned (.slice none 0 0) ∧ w' = w := by
  go_enter Try.func19, Try.ntmps19
  go_wp2_with fail
  go_ret
  exact ⟨rfl, rfl⟩
/-- Add, whatever slice it is given. -/
theorem add0_ha (K : Nat) (al : Option Addr) (cl : Nat) (H : Hv) (g : Nat) (S : Nat → Prop) (w : World) (hK : K ≤ 2000) (hok : HOk H K) (h : HA w g H S) :
    Calls Try.prog 13 #[.pointer (some ⟨g, 0, none⟩), .slice al 0 cl] w (HQ g S H (.int .i64 0) w) := by
  have hm0 := hok.m0
  have hsK := hok.sK
  obtain ⟨m0, m1, hgl⟩ := h.cells
  have HH := Lib.hid h
  have g1 : ((H.m : Int) == 0) = false := beq_eq_false_iff_ne.2 (by omega)
  have hw : IntKind.i64.wrap ((H.s : Int) + 0) = (H.s : Int) := IntWalk.i64_in _ (by omega)
  have g2 : ¬ 1099511627776 < (H.s : Int) := by omega
  clear hok h hm0 hsK
  go_enter Try.func13, Try.ntmps13
  go_upto_region 5 with fail
  clear g1 g2 hw m0 m1
  go_wp2_with fail
  go_loopw [28] (fun I wr => I = .int .i64 0 ∧ wr = w) (fun I _ => 0)
  case atStart => exact ⟨rfl, rfl⟩
  case round =>
    obtain ⟨rfl, hwr⟩ := hrel
    subst hwr
    go_wp2_with fail
    go_ret
    exact ⟨rfl, S, HH.out, Mvs.refl _ _⟩
theorem add_any (K : Nat) (l : List Int) (N : Nat) (al : Option Addr) (cl : Nat) (H : Hv) (g : Nat) (S : Nat → Prop) (w : World) (hN : l.length = N) (hK : K + N ≤ 2000) (hok : HOk H K) (hl : l = [] ∨ Apt w S al (i64s l)) (h : HA w g H S) :
    Calls Try.prog 13 #[.pointer (some ⟨g, 0, none⟩), .slice al N cl] w (HQ g S (addTo H l N) (.int .i64 0) w) := by
  rcases hl with rfl | hl
  · obtain rfl : N = 0 := hN.symm
    exact add0_ha K al cl H g S w (by omega) hok h
  · exact add_ha K l N al cl H g S w hN hK hok hl h
end Go.Proofs.Ythghnpopcnnidaa
