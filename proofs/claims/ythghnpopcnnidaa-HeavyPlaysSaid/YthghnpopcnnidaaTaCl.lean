/- Appends, slices.Clone at []api.Tally. -/
import Derived.Test.YthghnpopcnnidaaTa
import Derived.Laws.CopyRow
import Derived.Laws.CopyOwn
namespace Go.Proofs.Ythghnpopcnnidaa
open Go.RowKit Go.Lib Vm
set_option linter.unusedVariables false

theorem new_ta_cells (w : World) (x : Ta) : ∀ j u, ([.int .i64 x.k, .int .i64 x.n, .int .i64 x.o] : List Value)[j]? = some u → (w.alloc (.cells #[.int .i64 x.k, .int .i64 x.n, .int .i64 x.o] 45)).cell? ((⟨w.heap.size, 0, none⟩ : Addr).add j) = some u := by
  intro j u hj
  rw [add_at, Nat.zero_add, World.cell?_alloc_at _ _ _ _ rfl]
  simpa using hj
/-- What an append of one record leaves. -/
theorem ta_one (x : Ta) : ∀ v ∈ ([.int .i64 x.k, .int .i64 x.n, .int .i64 x.o] : List Value), v.oneCell' = true := fun v hv => by simp at hv; rcases hv with rfl | rfl | rfl <;> rfl

set_option maxRecDepth 100000 in
set_option maxHeartbeats 2000000 in
theorem clone_ta (l : List Ta) (N : Nat) (a : Option Addr) (c B : Nat) (w : World) (hN : l.length = N) (hlen : N ≤ 2000) (h : Sl w B a (taCells l)) (hB : B ≤ w.heap.size) :
    Calls Try.prog 30 #[.slice a N c] w fun e w' => ∃ a' c', e = .returned (.slice a' N c') ∧ w'.ownsRow w.heap.size 45 3 (.slice a' N c') N (taCells l) ∧ Below w.heap.size w w' := by
  obtain ⟨i0, hi, hz0, hz1, hz2⟩ := info_parts info_ta
  cases a with
  | none =>
    obtain rfl := ta_nil_of h
    obtain rfl : N = 0 := hN.symm
    have hq : ∀ w, (binOp .eql 28 (.slice none 0 c) (.slice none 0 0)).run Try.prog w = .ok (.bool true) w := fun w => by kernel_rfl
    go_enter Try.func30, Try.ntmps30
    go_wp2_with fail
    go_ret
    exact ⟨none, 0, rfl, World.ownsRow_nil _ _ _ _, Below.refl _ _⟩
  | some ad =>
    have hcl := taCells_length l
    have hq : ∀ w, (binOp .eql 28 (.slice (some ad) N c) (.slice none 0 0)).run Try.prog w = .ok (.bool false) w := fun w => by kernel_rfl
    have hc : ∀ j u, (taCells l)[j]? = some u → w.cell? (ad.add j) = some u := by
      rcases h with h | ⟨b, off, e, _, hc⟩
      · intro j u hu; rw [h] at hu; cases hu
      · injection e with e
        subst e
        intro j u hu
        rw [add_at]; exact hc j u hu
    have hown0 : (w.alloc (.cells #[] 45)).ownsRow w.heap.size 45 3 (.slice (some ⟨w.heap.size, 0, none⟩) 0 0) 0 [] := World.ownsRow_made w #[] 0 (Nat.le_refl _) (by unfold maxLen; omega) rfl
    have hal := balloc w (.cells #[] 45)
    have hc2 := Lib.hid (show ∀ j u, (taCells l)[j]? = some u → (w.alloc (.cells #[] 45)).cell? (ad.add j) = some u from fun j u hu => by
      have h1 := hc j u hu
      have h2 : (ad.add j).block < w.heap.size := cell_lt h1
      exact (hal.cell h2).trans h1)
    have HO := Lib.hid hown0
    have HAL := Lib.hid hal
    clear hown0 hal hc h
    go_enter Try.func30, Try.ntmps30
    go_wp2_with (at_builtin; refine wpList_append_own _ rfl _ _ 28 rfl w.heap.size 45 i0 (.agg #[.int .i64 0, .int .i64 0, .int .i64 0]) 3 24 Try.underlying28 hi hz0 hz1 hz2 rfl (by decide) _ _ _ rfl HO.out ad N c (taCells l) rfl ?c1 ?c2 ?c3 ?c4 ?c5 ?c6 ?_)
    case c1 => rw [hcl, hN]
    case c2 => exact hc2.out
    case c3 => exact taCells_one l
    case c4 => unfold maxLen; omega
    case c5 => omega
    case c6 => simp
    intro v' w3 hown' hgrow _
    obtain ⟨a3, c3, rfl⟩ := ownN_shape hown'
    have hb3 := HAL.out.grown hgrow (by simp) (fun g hg => (HO.out.lt g hg).1)
    go_wp2_with fail
    go_ret
    exact ⟨a3, c3, rfl, hown', hb3⟩
end Go.Proofs.Ythghnpopcnnidaa
