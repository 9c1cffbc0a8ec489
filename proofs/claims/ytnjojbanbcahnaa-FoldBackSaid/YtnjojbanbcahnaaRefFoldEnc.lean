/- The walk of headgateref15.Encode. -/
import Derived.Test.YtnjojbanbcahnaaFoldEnc
import Derived.Test.YtnjojbanbcahnaaRefMay
import Derived.Test.YtnjojbanbcahnaaRefAll
namespace Go.Proofs.Ytnjojbanbcahnaa
open Go.RowKit Vm Fo
set_option linter.unusedVariables false

theorem refput_rw (xs : List Int) (n : Nat) (g : Nat) (W : World) (hn : n = xs.length) (hm : n ≤ 100) (hx : ∀ x ∈ xs, I64 x) (h : Rw W g xs) :
    Calls Try.prog 64 #[.slice (some ⟨g, 0, none⟩) n n] W fun e w' => e = .returned (.string (str (putN xs))) ∧ Below W.heap.size W w' :=
  ref_all_walk (some ⟨g, 0, none⟩) n n W.heap.size xs W hn (by omega) (.inr ⟨g, 0, rfl, h.1, fun j u hu => by rw [Nat.zero_add]; exact h.2 j u hu⟩) (Nat.le_refl _) hx

set_option maxRecDepth 100000 in
set_option maxHeartbeats 2000000 in
theorem renc_yes (a : Ag) (w : World) (ha : AgWf a) (hm : May a) :
    Calls Try.prog 41 #[av a] w fun e w' => e = .returned (.tuple #[.string (str (putN (numsA a))), .int .i64 0]) ∧ Below w.heap.size w w' := by
  have HC := Lib.hid (fun w => may_walk a w ha)
  rw [decide_eq_true hm] at HC
  have P := Lib.hid (fun g W => refput_rw (numsA a) 10 g W rfl (by omega) (numsA_i64 ha))
  have hbel : Below w.heap.size w (w.alloc (.cells (avc a) 53)) := (Below.refl _ _).alloc (Nat.le_refl _) _
  have hwz : w.heap.size < (w.alloc (.cells (avc a) 53)).heap.size := by simp
  have hR := Lib.hid (Whole.new w 53 (avc a))
  clear hm ha
  go_enter Try.func41, Try.ntmps41
  go_wp2_with fail
  refine (HC.out _).mono ?_
  rintro e w1 ⟨rfl, g1⟩
  obtain ⟨c0, c1, c2, c3, c4, c5, c6, c7, c8, c9, _⟩ := (hR.out.keep g1).ten
  have hbel1 := hbel.trans (g1.mono hbel.size)
  have hw1 := g1.size
  clear g1 hbel hR
  go_wp2_with fail
  refine (P.out _ _ (Rw.new2 (by exact rfl) (by exact rfl) (by exact rfl))).mono ?_
  rintro e w2 ⟨rfl, g2⟩
  go_wp2_with fail
  go_ret2
  exact ⟨rfl, (hbel1.alloc hbel1.size _).trans (g2.mono (Nat.le_trans hbel1.size (by simp)))⟩

set_option maxRecDepth 100000 in
set_option maxHeartbeats 1000000 in
theorem renc_no (a : Ag) (w : World) (ha : AgWf a) (hm : ¬ May a) :
    Calls Try.prog 41 #[av a] w fun e w' => e = .returned (.tuple #[.string ⟨#[]⟩, .int .i64 1]) ∧ Below w.heap.size w w' := by
  have HC := Lib.hid (fun w => may_walk a w ha)
  rw [decide_eq_false hm] at HC
  have hbel : Below w.heap.size w (w.alloc (.cells (avc a) 53)) := (Below.refl _ _).alloc (Nat.le_refl _) _
  clear hm ha
  go_enter Try.func41, Try.ntmps41
  go_wp2_with fail
  refine (HC.out _).mono ?_
  rintro e w1 ⟨rfl, g1⟩
  go_wp2_with fail
  go_ret2
  exact ⟨rfl, hbel.trans (g1.mono hbel.size)⟩
end Go.Proofs.Ytnjojbanbcahnaa
