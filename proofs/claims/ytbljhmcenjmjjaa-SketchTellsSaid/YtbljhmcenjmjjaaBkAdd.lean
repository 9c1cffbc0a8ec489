/- The walks of slices.Clone at buckets, sketch.Add, sketch.Merge. -/
import Derived.Test.YtbljhmcenjmjjaaBkPut
namespace Go.Proofs.Ytbljhmcenjmjjaa
open Go.RowKit Vm Sk
set_option linter.unusedVariables false

set_option maxRecDepth 100000 in
set_option maxHeartbeats 2000000 in
theorem clone_walk (l : List Bk) (N : Nat) (a : Option Addr) (c B : Nat) (w : World) (hN : l.length = N) (hlen : N ≤ 2000) (h : Sl w B a (bkCells l)) (hB : B ≤ w.heap.size) :
    Calls Try.prog 36 #[.slice a N c] w fun e w' => ∃ a' c', e = .returned (.slice a' N c') ∧ w'.ownsRow w.heap.size 63 2 (.slice a' N c') N (bkCells l) ∧ Below w.heap.size w w' := by
  obtain ⟨i0, hi, hz0, hz1, hz2⟩ := info_parts info_bk
  cases a with
  | none =>
    have hl : l = [] := by
      rcases h with h | ⟨b, off, e, _⟩
      · have := congrArg List.length h
        rw [bkCells_length, List.length_nil] at this
        exact List.eq_nil_of_length_eq_zero (by omega)
      · cases e
    subst hl
    obtain rfl : N = 0 := hN.symm
    have hq : ∀ w, (binOp .eql 30 (.slice none 0 c) (.slice none 0 0)).run Try.prog w = .ok (.bool true) w := fun w => by kernel_rfl
    go_enter Try.func36, Try.ntmps36
    go_wp2_with fail
    go_ret
    exact ⟨none, 0, rfl, World.ownsRow_nil _ _ _ _, Below.refl _ _⟩
  | some ad =>
    have hcl := bkCells_length l
    have hq : ∀ w, (binOp .eql 30 (.slice (some ad) N c) (.slice none 0 0)).run Try.prog w = .ok (.bool false) w := fun w => by kernel_rfl
    have hc : ∀ j u, (bkCells l)[j]? = some u → w.cell? (ad.add j) = some u := by
      rcases h with h | ⟨b, off, e, _, hc⟩
      · intro j u hu; rw [h] at hu; cases hu
      · injection e with e
        subst e
        intro j u hu
        rw [add_at]; exact hc j u hu
    have hown0 : (w.alloc (.cells #[] 63)).ownsRow w.heap.size 63 2 (.slice (some ⟨w.heap.size, 0, none⟩) 0 0) 0 [] := World.ownsRow_made w #[] 0 (Nat.le_refl _) (by unfold maxLen; omega) rfl
    have hal := below_alloc w (.cells #[] 63)
    have hc2 := Lib.hid (show ∀ j u, (bkCells l)[j]? = some u → (w.alloc (.cells #[] 63)).cell? (ad.add j) = some u from fun j u hu => by
      have h1 := hc j u hu
      have h2 : (ad.add j).block < w.heap.size := cell_lt h1
      exact (hal.cell h2).trans h1)
    have HO := Lib.hid hown0
    have HAL := Lib.hid hal
    clear hown0 hal hc h
    go_enter Try.func36, Try.ntmps36
    go_wp2_with (at_builtin; refine wpList_append_own _ rfl _ _ 30 rfl w.heap.size 63 i0 (.agg #[.int .i64 0, .int .i64 0]) 2 16 Try.underlying30 hi hz0 hz1 hz2 rfl (by decide) _ _ _ rfl HO.out ad N c (bkCells l) rfl ?c1 ?c2 ?c3 ?c4 ?c5 ?c6 ?_)
    case c1 => rw [hcl, hN]
    case c2 => exact hc2.out
    case c3 => exact bkCells_one l
    case c4 => unfold maxLen; omega
    case c5 => omega
    case c6 => simp
    intro v' w3 hown' hgrow _
    obtain ⟨a3, c3, rfl⟩ := own_shape hown'
    have hb3 := HAL.out.grown hgrow (by simp) (fun g hg => (HO.out.lt g hg).1)
    go_wp2_with fail
    go_ret
    exact ⟨a3, c3, rfl, hown', hb3⟩
end Go.Proofs.Ytbljhmcenjmjjaa
