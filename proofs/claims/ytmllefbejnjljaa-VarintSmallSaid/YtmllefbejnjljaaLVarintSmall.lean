/- The walk of the statement VarintSmall of layer 1. -/
import Derived.Test.YtmllefbejnjljaaAwake1
import Derived.IntWalk
namespace Go.Proofs.Ytmllefbejnjljaa
open Go.RowKit Vm
set_option linter.unusedVariables false
set_option maxRecDepth 100000 in
set_option maxHeartbeats 2000000 in
theorem varintSmall_law (n : Int) (w : World) (hn0 : (Lit.int .i64 n).wf = true) :
    Calls Try.prog 8 #[.int .i64 n] w fun e w' => e = .returned (.bool true) ∧ Below w.heap.size w w' := by
  have hn := wf_i64 hn0
  clear hn0
  obtain ⟨k, hk⟩ : ∃ k, (str (putL n)).size = k := ⟨_, rfl⟩
  have h1 : 1 ≤ k ∧ k ≤ 10 := by rw [← hk, str_size]; exact ⟨putL_pos n, putL_len hn⟩
  have hlt : zig n < 128 ^ k := by rw [← hk, str_size]; exact enc_lt _
  have hge : 1 < k → 128 ^ (k - 1) ≤ zig n := by rw [← hk, str_size]; exact enc_ge _
  have hz : (n < 0 ∧ (zig n : Int) = -2 * n - 1) ∨ (0 ≤ n ∧ (zig n : Int) = 2 * n) := by unfold zig; split <;> omega
  have hcases : k = 1 ∨ k = 2 ∨ k = 3 ∨ k = 4 ∨ k = 5 ∨ k = 6 ∨ k = 7 ∨ k = 8 ∨ k = 9 ∨ k = 10 := by omega
  unfold I64 at hn
  rcases hcases with rfl | rfl | rfl | rfl | rfl | rfl | rfl | rfl | rfl | rfl
  all_goals
    simp only [Nat.reducePow, Nat.reduceSub, Nat.reduceLT, true_implies, false_implies] at hlt hge
    have hle : (str (putL n)).size ≤ 10 := by omega
    have HK := Lib.hid hk
    generalize zig n = Z at *
    rcases hz with ⟨hn1, hz⟩ | ⟨hn1, hz⟩
    all_goals
      obtain ⟨hb1, hb2⟩ := hn
      go_enter Try.func8, Try.ntmps8
      go_wp2_with fail
      refine (put_walk _ _ (by unfold I64; omega)).mono ?_
      rintro e w1 ⟨rfl, h1⟩
      go_wp2_with fail
      refine (awake1_walk _).mono ?_
      rintro e w3 ⟨rfl, h3⟩
      go_wp2_with fail
      go_ret
      exact ⟨rfl, gtrans h1 h3⟩
end Go.Proofs.Ytmllefbejnjljaa
