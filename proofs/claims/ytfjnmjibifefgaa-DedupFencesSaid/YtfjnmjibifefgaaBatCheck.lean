/- The walks of batch.Check: its closure, kind. -/
import Derived.Test.YtfjnmjibifefgaaBat
import Derived.Test.YtfjnmjibifefgaaKit
import Derived.IntWalk
import Derived.Lib.Hide
import Derived.Deep.RegionWith
namespace Go.Proofs.Ytfjnmjibifefgaa
open Go.RowKit Vm Bm
set_option linter.unusedVariables false

set_option maxRecDepth 100000 in
set_option maxHeartbeats 1000000 in
theorem beyond_walk (m : Int) (a : Option Addr) (n c B : Nat) (xs : List Int) (w : World) (b : Bool) (hb : b = true ↔ ∃ x ∈ xs, x < 0 ∨ m < x) (hn : n = xs.length) (hm : n ≤ 100) (ha : Sl w B a (i64s xs)) :
    Calls Try.prog 67 #[.int .i64 m, .slice a n c] w fun e w' => e = .returned (.bool b) ∧ w' = w := by
  have HB := Lib.hid hb
  have HN := Lib.hid hn
  clear hb hn
  go_enter Try.func67, Try.ntmps67
  go_wp2_with fail
  go_loop [9] (fun i => ∃ k : Nat, k ≤ n ∧ i = .int .i64 k ∧ ∀ x ∈ xs.take k, ¬ (x < 0 ∨ m < x)) (fun i => n - (intOf i).toNat)
  case atStart => exact ⟨0, by omega, rfl, by simp⟩
  case round =>
    obtain ⟨k, hk, rfl, hrel⟩ := hrel
    have HR := Lib.hid hrel
    clear hrel
    by_cases hlt : k < n
    · have hkx : k < xs.length := by have := HN.out; omega
      obtain ⟨b1, o1, rfl, _, h1⟩ := ha.at (j := k) (by rw [i64s_length]; exact hkx)
      rw [i64s_at _ _ hkx] at h1
      have hts := Lib.hid (List.take_succ_eq_append_getElem hkx)
      have hmem := Lib.hid (List.getElem_mem hkx)
      generalize xs[k] = x at *
      by_cases g1 : x < 0
      · obtain rfl : b = true := HB.out.2 ⟨x, hmem.out, .inl g1⟩
        go_wp2_with fail
        go_ret
        exact ⟨rfl, rfl⟩
      by_cases g2 : m < x
      · obtain rfl : b = true := HB.out.2 ⟨x, hmem.out, .inr g2⟩
        go_wp2_with fail
        go_ret
        exact ⟨rfl, rfl⟩
      go_wp2_with fail
      go_round
      case rel => exact ⟨k + 1, by omega, by go_num, by rw [hts.out]; intro y hy; rcases List.mem_append.1 hy with hy | hy; exact HR.out y hy; rw [List.mem_singleton.1 hy]; omega⟩
      case measure => simp [intOf]; omega
    · have hall : xs.take k = xs := List.take_of_length_le (by have := HN.out; omega)
      obtain rfl : b = false := by
        rw [Bool.eq_false_iff, Ne, HB.out]
        rintro ⟨x, hx, h⟩
        have := HR.out
        rw [hall] at this
        exact this x hx h
      clear hall
      go_wp2_with fail
      go_ret
      exact ⟨rfl, rfl⟩

set_option maxRecDepth 100000 in
set_option maxHeartbeats 8000000 in
theorem kind_walk (b : Bat) (a : Option Addr) (c : Nat) (w : World) (d : Bool) (hd : d = true ↔ KindB b) (hp : 0 ≤ b.pid) (he : 0 ≤ b.epoch) (hq : 0 ≤ b.seq) :
    Calls Try.prog 68 #[bv b a c] w fun e w' => e = .returned (.bool d) ∧ Below w.heap.size w w' := by
  obtain ⟨k, p, e, q, l⟩ := b
  have hal := (Below.refl w.heap.size w).alloc (Nat.le_refl _) (.cells #[.int .i64 k, .int .i64 p, .int .i64 e, .int .i64 q, .slice a l.length c] 25)
  have HAL := Lib.hid hal
  clear hal
  unfold KindB Somebody Nobody at hd
  simp only at hd hp he hq
  obtain ⟨n, hn⟩ : ∃ n, l.length = n := ⟨_, rfl⟩
  rw [hn] at hd
  simp only [bv, bvc]
  rw [hn] at HAL ⊢
  clear hn
  have hcase : (p = 0 ∧ e = 0 ∧ q = 0) ∨ (p = 0 ∧ e = 0 ∧ 0 < q ∧ ¬ q = 0) ∨ (p = 0 ∧ 0 < e ∧ ¬ e = 0) ∨ (0 < p ∧ ¬ p = 0 ∧ e = 0) ∨ (0 < p ∧ ¬ p = 0 ∧ 0 < e ∧ ¬ e = 0 ∧ q = 0) ∨ (0 < p ∧ ¬ p = 0 ∧ 0 < e ∧ ¬ e = 0 ∧ 0 < q ∧ ¬ q = 0) := by omega
  have hk : (¬ k = 1 ∧ ¬ k = 2 ∧ ¬ k = 3 ∧ ¬ k = 4) ∨ (k = 1 ∧ n = 0) ∨ (k = 2 ∧ n = 0) ∨ (k = 3 ∧ n = 0) ∨ (k = 4 ∧ n = 0) ∨ (k = 1 ∧ 0 < n ∧ ¬ n = 0) ∨ (k = 2 ∧ 0 < n ∧ ¬ n = 0) ∨ (k = 3 ∧ 0 < n ∧ ¬ n = 0) ∨ (k = 4 ∧ 0 < n ∧ ¬ n = 0) := by omega
  clear hp he hq
  cases d with
  | true =>
    have hP := hd.1 rfl
    clear hd
    rcases hk with ⟨k1, k2, k3, k4⟩ | ⟨rfl, rfl⟩ | ⟨rfl, rfl⟩ | ⟨rfl, rfl⟩ | ⟨rfl, rfl⟩ | ⟨rfl, n0, n1⟩ | ⟨rfl, n0, n1⟩ | ⟨rfl, n0, n1⟩ | ⟨rfl, n0, n1⟩
    all_goals
      rcases hcase with ⟨rfl, rfl, rfl⟩ | ⟨rfl, rfl, q0, q1⟩ | ⟨rfl, e0, e1⟩ | ⟨p0, p1, rfl⟩ | ⟨p0, p1, e0, e1, rfl⟩ | ⟨p0, p1, e0, e1, q0, q1⟩
    all_goals
      first
        | (exfalso; omega)
        | (clear hP
           go_enter Try.func68, Try.ntmps68
           go_wp2_with fail
           go_ret
           first | exact ⟨rfl, HAL.out⟩ | exact ⟨by rw [show (q == 0) = false from beq_eq_false_iff_ne.2 q1]; rfl, HAL.out⟩)
  | false =>
    have hP := mt hd.2 (by simp)
    clear hd
    rcases hk with ⟨k1, k2, k3, k4⟩ | ⟨rfl, rfl⟩ | ⟨rfl, rfl⟩ | ⟨rfl, rfl⟩ | ⟨rfl, rfl⟩ | ⟨rfl, n0, n1⟩ | ⟨rfl, n0, n1⟩ | ⟨rfl, n0, n1⟩ | ⟨rfl, n0, n1⟩
    all_goals
      rcases hcase with ⟨rfl, rfl, rfl⟩ | ⟨rfl, rfl, q0, q1⟩ | ⟨rfl, e0, e1⟩ | ⟨p0, p1, rfl⟩ | ⟨p0, p1, e0, e1, rfl⟩ | ⟨p0, p1, e0, e1, q0, q1⟩
    all_goals
      first
        | (exfalso; omega)
        | (clear hP
           go_enter Try.func68, Try.ntmps68
           go_wp2_with fail
           go_ret
           first | exact ⟨rfl, HAL.out⟩ | exact ⟨by rw [show (q == 0) = false from beq_eq_false_iff_ne.2 q1]; rfl, HAL.out⟩)
end Go.Proofs.Ytfjnmjibifefgaa
