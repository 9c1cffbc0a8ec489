/- The walk of headgate/headgateref30.Same: the same rows are told to be the same. -/
import Derived.Test.YthghnpopcnnidaaTa
import Derived.Test.YthghnpopcnnidaaKit
import Derived.BigQuiet
namespace Go.Proofs.Ythghnpopcnnidaa
open Go.RowKit Vm
set_option linter.unusedVariables false

set_option maxRecDepth 100000 in
set_option maxHeartbeats 2000000 in
theorem same_ta (l : List Ta) (N : Nat) (a1 a2 : Option Addr) (c1 c2 B : Nat) (w : World) (hN : l.length = N) (hlen : N ≤ 2000) (h1 : Sl w B a1 (taCells l)) (h2 : Sl w B a2 (taCells l)) (hB : B ≤ w.heap.size) :
    Calls Try.prog 18 #[.slice a1 N c1, .slice a2 N c2] w fun e w' => e = .returned (.bool true) ∧ Below w.heap.size w w' := by
  go_enter Try.func18, Try.ntmps18
  go_wp2_with fail
  go_loopw [5] (fun i wr => ∃ n : Nat, n ≤ N ∧ i = .int .i64 n ∧ Below w.heap.size w wr) (fun i _ => N - (intOf i).toNat)
  case atStart => exact ⟨0, by omega, rfl, Below.refl _ _⟩
  case round =>
    obtain ⟨n, hn, rfl, hb⟩ := hrel
    by_cases hlt : n < N
    · obtain ⟨b1, o1, rfl, hb1, hc1⟩ := (h1.below hb hB).ta (by omega)
      obtain ⟨b2, o2, rfl, hb2, hc2⟩ := (h2.below hb hB).ta (by omega)
      obtain ⟨r0, r1, r2⟩ := hc1 n (by omega)
      obtain ⟨s0, s1, s2⟩ := hc2 n (by omega)
      clear hc1 hc2
      generalize l.getD n ta0 = r at *
      obtain ⟨x0, x1, x2⟩ := r
      simp only at r0 r1 r2 s0 s1 s2
      have hz1 : b1 < wr.heap.size := by have := hb.size; omega
      have hz2 : b2 < wr.heap.size := by have := hb.size; omega
      clear h1 h2
      go_wp2_with fail
      go_quiet (fail)
      go_wp2_with fail
      go_roundw
      case rel => exact ⟨n + 1, by omega, by go_num, hb.trans (below_drewN _ _ _)⟩
      case measure => simp [intOf]; omega
    · go_wp2_with fail
      go_ret
      exact ⟨rfl, hb⟩
end Go.Proofs.Ythghnpopcnnidaa
