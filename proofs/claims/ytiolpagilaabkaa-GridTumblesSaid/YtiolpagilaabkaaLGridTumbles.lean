/- The walk of the statement GridTumbles of layer 14. -/
import Derived.Test.YtiolpagilaabkaaGridClosed
import Derived.Deep.RegionHeld3
namespace Go.Proofs.Ytiolpagilaabkaa
open Go.RowKit Vm Gm
set_option linter.unusedVariables false

theorem starts_one {s t : Int} (hs : 1 ≤ s) (ht : 0 ≤ t) : starts s s t = [t - t % s] := by
  have h1 : s / s = 1 := Int.ediv_self (by omega)
  have h2 : 0 ≤ t / s := Int.ediv_nonneg ht (by omega)
  have hc : cnt s s t = 1 := by unfold cnt; rw [h1]; omega
  have hT : t / s * s = t - t % s := by have := Int.mul_ediv_add_emod t s; rw [Int.mul_comm] at this; omega
  unfold starts
  rw [hc, hT]
  simp [asc]

set_option maxRecDepth 100000 in
set_option maxHeartbeats 1000000 in
theorem gridTumbles_law (s l t : Int) (w : World) (hs0 : (Lit.int .i64 s).wf = true) (hl0 : (Lit.int .i64 l).wf = true) (ht0 : (Lit.int .i64 t).wf = true) :
    Calls Try.prog 14 #[.int .i64 s, .int .i64 l, .int .i64 t] w fun e w' => e = .returned (.bool true) ∧ Below w.heap.size w w' := by
  have hs := wf_i64 hs0
  have hl := wf_i64 hl0
  have ht := wf_i64 ht0
  clear hs0 hl0 ht0
  by_cases hy : May s s l ∧ 0 ≤ t ∧ t ≤ 1099511627776
  · obtain ⟨hm, h0, h1⟩ := hy
    have HM := Lib.hid hm
    obtain ⟨g1, g2, _, _, g5, g6, _, _⟩ := hm
    have H1 := Lib.hid (fun w => starts_yes s s l t w HM.out h0 h1)
    rw [starts_one g1 h0] at H1
    have hr0 : 0 ≤ t % s := Int.emod_nonneg _ (by omega)
    have hr1 : t % s < s := Int.emod_lt_of_pos _ (by omega)
    have hq : (t - t % s == t - t % s) = true := beq_self_eq_true _
    have htm : t.tmod s = t % s := Int.tmod_eq_emod_of_nonneg h0
    have hz1 : (s == 0) = false := beq_eq_false_iff_ne.2 (by omega)
    have hz2 : s ≠ 0 := by omega
    have hw1 : IntKind.i64.wrap (t % s) = t % s := IntWalk.i64_in _ (by omega)
    have hw2 : IntKind.i64.wrap (t - t % s) = t - t % s := IntWalk.i64_in _ (by omega)
    go_enter Try.func14, Try.ntmps14
    go_wp2_with fail
    refine (H1.out _).mono ?_
    rintro e w1 ⟨b1, a1, k1, rfl, o1⟩
    obtain ⟨b, off, rfl, hb, hc⟩ := (own_sl o1).at (j := 0) (by simp [i64s])
    have hc2 : w1.cell? ⟨b, off, none⟩ = some (.int .i64 (t - t % s)) := by simpa [i64s] using hc
    have hbel : Below w.heap.size w w1 := ((Below.refl _ _).alloc (Nat.le_refl _) _).trans (b1.mono (by simp))
    clear hc o1 b1
    go_wp2_with fail
    go_region_held3 (fun w' => w'.cell? ⟨b, off, none⟩ = some (.int .i64 (t - t % s))) (go_keep)
      (first | (go_at_call 31; refine (awake14_walk _).mono ?_; rintro e w3 ⟨rfl, h3⟩; have hk := (h3.cell (p := ⟨b, off, none⟩) (by exact hb)).trans hc2))
    go_wp2_with fail
    go_ret
    exact ⟨rfl, hbel.trans ((undrew h3).mono hbel.size)⟩
  · have HM := Lib.hid (show ¬ May s s l ∨ t < 0 ∨ 1099511627776 < t by
      by_cases hm : May s s l
      · right
        apply Classical.byContradiction
        intro hc
        exact hy ⟨hm, by omega, by omega⟩
      · exact .inl hm)
    clear hy
    go_enter Try.func14, Try.ntmps14
    go_wp2_with fail
    refine (starts_no s s l t _ hs hs hl HM.out).mono ?_
    rintro e w1 ⟨rfl, g1⟩
    have hbel : Below w.heap.size w w1 := ((Below.refl _ _).alloc (Nat.le_refl _) _).trans (g1.mono (by simp))
    go_wp2_with fail
    refine (awake14_walk _).mono ?_
    rintro e w3 ⟨rfl, h3⟩
    go_wp2_with fail
    go_ret
    exact ⟨rfl, hbel.trans (h3.mono hbel.size)⟩
end Go.Proofs.Ytiolpagilaabkaa
