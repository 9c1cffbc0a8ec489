/- The walks of txn.producer, txn.Check, txn.valid, headgateref12.May. -/
import Derived.Test.YtfjnmjibifefgaaTxMath
import Derived.Test.YtfjnmjibifefgaaKit
import Derived.BigQuiet
namespace Go.Proofs.Ytfjnmjibifefgaa
open Go.RowKit Vm
set_option linter.unusedVariables false

set_option maxRecDepth 100000 in
theorem prod_yes (n : Int) (w : World) (h1 : 1 ≤ n) (h2 : n ≤ 8) :
    Calls Try.prog 64 #[.int .i64 n] w fun e w' => e = .returned (.bool true) ∧ w = w' := by
  go_enter Try.func64, Try.ntmps64
  go_wp2
  go_ret
  exact ⟨rfl, rfl⟩
set_option maxRecDepth 100000 in
theorem prod_no (n : Int) (w : World) (h : ¬ (1 ≤ n ∧ n ≤ 8)) :
    Calls Try.prog 64 #[.int .i64 n] w fun e w' => e = .returned (.bool false) ∧ w = w' := by
  by_cases h1 : 1 ≤ n
  · have h2 : ¬ n ≤ 8 := by omega
    clear h
    go_enter Try.func64, Try.ntmps64
    go_wp2
    go_ret
    exact ⟨rfl, rfl⟩
  · clear h
    go_enter Try.func64, Try.ntmps64
    go_wp2
    go_ret
    exact ⟨rfl, rfl⟩
set_option maxRecDepth 100000 in
set_option maxHeartbeats 2000000 in
theorem tcheck_walk (k p m E : Int) (w : World) (h : (MayN k p m ∧ E = 0) ∨ (¬ MayN k p m ∧ E = 1)) :
    Calls Try.prog 33 #[.agg #[.int .i64 k, .int .i64 p, .int .i64 m]] w fun e w' => e = .returned (.int .i64 E) ∧ Below w.heap.size w w' := by
  have hal := balloc w (.cells #[.int .i64 k, .int .i64 p, .int .i64 m] 50)
  have hc : (k < 1 ∧ E = 1) ∨ (¬ k < 1 ∧ 5 < k ∧ E = 1) ∨ (¬ k < 1 ∧ ¬ 5 < k ∧ ((¬ (1 ≤ p ∧ p ≤ 8) ∧ E = 1) ∨ ((1 ≤ p ∧ p ≤ 8) ∧ ((¬ k = 2 ∧ m = 0 ∧ E = 0) ∨ (¬ k = 2 ∧ ¬ m = 0 ∧ E = 1) ∨ (k = 2 ∧ ¬ 1 ≤ m ∧ E = 1) ∨ (k = 2 ∧ 1 ≤ m ∧ m < 8192 ∧ E = 0) ∨ (k = 2 ∧ 1 ≤ m ∧ ¬ m < 8192 ∧ E = 1))))) := by
    unfold MayN at h; omega
  clear h
  rcases hc with ⟨h1, rfl⟩ | ⟨h1, h2, rfl⟩ | ⟨h1, h2, ⟨hp, rfl⟩ | ⟨hp, hr⟩⟩
  · go_enter Try.func33, Try.ntmps33
    go_wp2_with fail
    go_ret
    exact ⟨rfl, hal⟩
  · go_enter Try.func33, Try.ntmps33
    go_wp2_with fail
    go_ret
    exact ⟨rfl, hal⟩
  · have HP := Lib.hid (fun w => prod_no p w hp)
    clear hp
    go_enter Try.func33, Try.ntmps33
    go_wp2_with fail
    refine (HP.out _).mono ?_
    rintro e w1 ⟨rfl, rfl⟩
    go_wp2_with fail
    go_ret
    exact ⟨rfl, hal⟩
  · have HP := Lib.hid (fun w => prod_yes p w hp.1 hp.2)
    clear hp
    rcases hr with ⟨h3, rfl, rfl⟩ | ⟨h3, h4, rfl⟩ | ⟨rfl, h4, rfl⟩ | ⟨rfl, h4, h5, rfl⟩ | ⟨rfl, h4, h5, rfl⟩
    all_goals
      first | (have b1 : (k != 2) = true := by simp [h3]) | skip
      first | (have b2 : (k == 2) = false := by simp [h3]) | skip
      first | (have b3 : (m == 0) = false := by simp [h4]) | skip
      go_enter Try.func33, Try.ntmps33
      go_wp2_with fail
      refine (HP.out _).mono ?_
      rintro e w1 ⟨rfl, rfl⟩
      go_wp2_with fail
      go_ret
      exact ⟨rfl, hal⟩

set_option maxRecDepth 100000 in
set_option maxHeartbeats 4000000 in
theorem tvalid_walk (l : List Tr) (N : Nat) (a : Option Addr) (c B : Nat) (w : World) (d : Bool) (hN : l.length = N) (hNm : N ≤ maxLen) (hd : (RightT l ∧ d = true) ∨ (¬ RightT l ∧ d = false)) (h : Sl w B a (trCells l)) (hB : B ≤ w.heap.size) :
    Calls Try.prog 49 #[.slice a N c] w fun e w' => e = .returned (.bool d) ∧ Below w.heap.size w w' := by
  unfold maxLen at hNm
  have HNO2 := Lib.hid (show ∀ k, k < N → ¬ OkT l k → d = false from fun k hk h => by
    rcases hd with h1 | h1
    · exact absurd (h1.1 k (by omega)) h
    · exact h1.2)
  have HYES2 := Lib.hid (show PreT l N → d = true from fun h => by
    rcases hd with h1 | h1
    · exact h1.2
    · exact absurd (show RightT l by unfold RightT; rw [hN]; exact h) h1.1)
  clear hd
  go_enter Try.func49, Try.ntmps49
  go_wp2_with fail
  go_loopw [7] (fun i wr => ∃ k : Nat, k ≤ N ∧ i = .int .i64 k ∧ PreT l k ∧ Below w.heap.size w wr) (fun i _ => N - (intOf i).toNat)
  case atStart => exact ⟨0, by omega, rfl, PreT.zero l, Below.refl _ _⟩
  case round =>
    obtain ⟨k, hk, rfl, hpre, hb⟩ := hrel
    have HP := Lib.hid hpre
    clear hpre
    by_cases hlt : k < N
    · obtain ⟨b1, o1, rfl, hb1, hc⟩ := (h.below hb hB).tr (by omega)
      obtain ⟨r0, r1, r2, r3, r4⟩ := hc k (by omega)
      have hz1 : b1 < wr.heap.size := by have := hb.size; omega
      have HOk := Lib.hid (HNO2.out k hlt)
      have HOkd := Lib.hid (show OkT l k ↔ ((1 ≤ (l.getD k tr0).p ∧ (l.getD k tr0).p ≤ 8) ∧ 1 ≤ (l.getD k tr0).e ∧ (l.getD k tr0).e ≤ 1099511627776 ∧ (0 < k → (l.getD (k - 1) tr0).p < (l.getD k tr0).p)) from Iff.rfl)
      have hal : Below wr.heap.size wr (wr.alloc (.cells #[.int .i64 (l.getD k tr0).p, .int .i64 (l.getD k tr0).e, .int .i64 (l.getD k tr0).s, .int .i64 (l.getD k tr0).m, .int .i64 (l.getD k tr0).l] 52)) := balloc _ _
      have hb2 := hb.trans (hal.mono hb.size)
      have hprev : k = 0 ∨ ∃ j : Nat, k = j + 1 ∧ k - 1 = j ∧ j < N ∧ IntKind.i64.wrap ((k : Int) - 1) = (j : Int) ∧ wr.cell? ⟨b1, o1 + j * 5, none⟩ = some (.int .i64 (l.getD j tr0).p) := by
        cases k with
        | zero => exact .inl rfl
        | succ j => exact .inr ⟨j, rfl, by omega, by omega, by rw [IntWalk.i64_in _ (by omega)]; omega, (hc j (by omega)).1⟩
      clear hc h hal
      generalize l.getD k tr0 = x at *
      obtain ⟨xp, xe, xs, xm, xl⟩ := x
      simp only at r0 r1 r2 r3 r4 hb2 HOkd
      have hfin : ∀ n, Below w.heap.size w ((wr.alloc (.cells #[.int .i64 xp, .int .i64 xe, .int .i64 xs, .int .i64 xm, .int .i64 xl] 52)).drewN n) := fun n => hb2.trans (below_drewN _ _ _)
      have HF := Lib.hid hfin
      clear hfin
      by_cases h1 : ¬ (1 ≤ xp ∧ xp ≤ 8)
      · obtain rfl := HOk.out (by rw [HOkd.out]; omega)
        have KB := Lib.hid (fun w => prod_no xp w h1)
        clear h1 HOkd HOk hprev
        go_wp2_with fail
        go_quiet ((go_at_call 64; exact quiet_of_eq (KB.out _)))
        go_wp2_with fail
        go_ret
        exact ⟨rfl, HF.out _⟩
      have h1 := Classical.not_not.1 h1
      have KB := Lib.hid (fun w => prod_yes xp w h1.1 h1.2)
      by_cases h2 : xe < 1
      · have d2 : decide (xe < 1) = true := decide_eq_true h2
        obtain rfl := HOk.out (by rw [HOkd.out]; omega)
        clear h1 HOkd HOk hprev
        go_wp2_with fail
        go_quiet ((go_at_call 64; exact quiet_of_eq (KB.out _)))
        go_wp2_with fail
        go_ret
        exact ⟨rfl, HF.out _⟩
      have d2 : decide (xe < 1) = false := decide_eq_false h2
      by_cases h3 : 1099511627776 < xe
      · have d3 : decide (1099511627776 < xe) = true := decide_eq_true h3
        obtain rfl := HOk.out (by rw [HOkd.out]; omega)
        clear h1 HOkd HOk hprev
        go_wp2_with fail
        go_quiet ((go_at_call 64; exact quiet_of_eq (KB.out _)))
        go_wp2_with fail
        go_ret
        exact ⟨rfl, HF.out _⟩
      have d3 : decide (1099511627776 < xe) = false := decide_eq_false h3
      rcases hprev with rfl | ⟨j, hkj, hkj1, hjN, hjw, p0⟩
      · simp only [Nat.zero_mul, Nat.add_zero] at r0 r1 r2 r3 r4
        have HO := Lib.hid (show OkT l 0 from HOkd.out.2 ⟨h1, by omega, by omega, fun h => by omega⟩)
        clear h1 HOkd HOk
        go_wp2_with fail
        go_quiet ((go_at_call 64; exact quiet_of_eq (KB.out _)))
        go_wp2_with fail
        go_roundw
        case rel => exact ⟨0 + 1, by omega, by go_num, HP.out.succ HO.out, HF.out _⟩
        case measure => simp [intOf]; omega
      · rw [hkj1] at HOkd
        have hk0 : 0 < k := by omega
        have dk : decide (0 < k) = true := decide_eq_true hk0
        generalize l.getD j tr0 = y at *
        obtain ⟨yp, ye, ys, ym, yl⟩ := y
        simp only at p0 HOkd
        by_cases h6 : xp ≤ yp
        · have d6 : decide (xp ≤ yp) = true := decide_eq_true h6
          obtain rfl := HOk.out (by rw [HOkd.out]; omega)
          clear h1 HOkd HOk hkj hkj1
          go_wp2_with fail
          go_quiet ((go_at_call 64; exact quiet_of_eq (KB.out _)))
          go_wp2_with fail
          go_ret
          exact ⟨rfl, HF.out _⟩
        · have d6 : decide (xp ≤ yp) = false := decide_eq_false h6
          have HO := Lib.hid (show OkT l k from HOkd.out.2 ⟨h1, by omega, by omega, fun h => by omega⟩)
          clear h1 HOkd HOk hkj hkj1
          go_wp2_with fail
          go_quiet ((go_at_call 64; exact quiet_of_eq (KB.out _)))
          go_wp2_with fail
          go_roundw
          case rel => exact ⟨k + 1, by omega, by go_num, HP.out.succ HO.out, HF.out _⟩
          case measure => simp [intOf]; omega
    · obtain rfl : k = N := by omega
      obtain rfl := HYES2.out HP.out
      go_wp2_with fail
      go_ret
      exact ⟨rfl, hb⟩
end Go.Proofs.Ytfjnmjibifefgaa
