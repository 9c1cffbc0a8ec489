/- The walks of sketch.Check and sketch.Count. -/
import Derived.Test.YtbljhmcenjmjjaaBk
import Derived.Test.YtbljhmcenjmjjaaSkOf
import Derived.Test.YtbljhmcenjmjjaaKit
import Derived.IntWalk
import Derived.Lib.Hide
import Derived.BigQuiet
namespace Go.Proofs.Ytbljhmcenjmjjaa
open Go.RowKit Vm Sk
set_option linter.unusedVariables false

theorem bucket_true {b : Int} (h : -960 ≤ b ∧ b < 960) (w : World) : Calls Try.prog 34 #[.int .i64 b] w fun e w' => e = .returned (.bool true) ∧ w = w' := by
  have := bucket_walk b w
  rwa [decide_eq_true h] at this
theorem bucket_false {b : Int} (h : ¬ (-960 ≤ b ∧ b < 960)) (w : World) : Calls Try.prog 34 #[.int .i64 b] w fun e w' => e = .returned (.bool false) ∧ w = w' := by
  have := bucket_walk b w
  rwa [decide_eq_false h] at this

set_option maxRecDepth 100000 in
set_option maxHeartbeats 4000000 in
theorem bk_check_walk (l : List Bk) (N : Nat) (a : Option Addr) (c B : Nat) (w : World) (K : Int) (hN : l.length = N) (hlen : N ≤ 2000) (hK : (MayS l ∧ K = 0) ∨ (¬ MayS l ∧ K = 1)) (h : Sl w B a (bkCells l)) (hB : B ≤ w.heap.size) :
    Calls Try.prog 23 #[.slice a N c] w fun e w' => e = .returned (.int .i64 K) ∧ Below w.heap.size w w' := by
  have HNO := Lib.hid (show ¬ MayS l → K = 1 from fun h => by rcases hK with h1 | h1; exact absurd h1.1 h; exact h1.2)
  have HYES := Lib.hid (show MayS l → K = 0 from fun h => by rcases hK with h1 | h1; exact h1.2; exact absurd h h1.1)
  clear hK
  go_enter Try.func23, Try.ntmps23
  go_wp2_with fail
  go_loopw [3, 8] (fun S i wr => ∃ k : Nat, k ≤ N ∧ i = .int .i64 k ∧ S = .int .i64 (sumN (l.take k)) ∧ Pre l k ∧ Below w.heap.size w wr) (fun _ i _ => N - (intOf i).toNat)
  case atStart => exact ⟨0, by omega, rfl, rfl, Pre.zero l, Below.refl _ _⟩
  case round =>
    obtain ⟨k, hk, rfl, rfl, hpre, hb⟩ := hrel
    have HP := Lib.hid hpre
    have hsum := pre_sum k (by omega) hpre
    clear hpre
    by_cases hlt : k < N
    · obtain ⟨b1, o1, rfl, hb1, hc⟩ := (h.below hb hB).bk (by omega)
      obtain ⟨r0, r1⟩ := hc k (by omega)
      have hz1 : b1 < wr.heap.size := by have := hb.size; omega
      have hal : Below wr.heap.size wr (wr.alloc (.cells #[.int .i64 (l.getD k bk0).b, .int .i64 (l.getD k bk0).n] 63)) := (Below.refl _ _).alloc (Nat.le_refl _) _
      have hb2 := hb.trans (hal.mono hb.size)
      have hts := Lib.hid (sumN_take l k (by omega))
      have HOk := Lib.hid (show ¬ OkAt l k → K = 1 from fun hno => HNO.out (fun hm => hno (hm.1 k (by omega))))
      have HOkd := Lib.hid (show OkAt l k ↔ (-960 ≤ (l.getD k bk0).b ∧ (l.getD k bk0).b < 960 ∧ 1 ≤ (l.getD k bk0).n ∧ (l.getD k bk0).n ≤ 1099511627776 ∧ (0 < k → (l.getD (k - 1) bk0).b < (l.getD k bk0).b)) from Iff.rfl)
      have hprev : k = 0 ∨ ∃ j : Nat, k = j + 1 ∧ k - 1 = j ∧ j < N ∧ IntKind.i64.wrap ((k : Int) - 1) = (j : Int) ∧ wr.cell? ⟨b1, o1 + j * 2, none⟩ = some (.int .i64 (l.getD j bk0).b) := by
        cases k with
        | zero => exact .inl rfl
        | succ j => exact .inr ⟨j, rfl, by omega, by omega, by rw [IntWalk.i64_in _ (by omega)]; omega, (hc j (by omega)).1⟩
      clear hc h
      generalize l.getD k bk0 = x at *
      obtain ⟨xb, xn⟩ := x
      simp only at r0 r1 hal hb2 hts HOkd
      have hadd : IntKind.i64.wrap (sumN (l.take k) + xn) = sumN (l.take k) + xn ∨ ¬ (1 ≤ xn ∧ xn ≤ 1099511627776) := by
        by_cases hx : 1 ≤ xn ∧ xn ≤ 1099511627776
        · exact .inl (IntWalk.i64_in _ (by omega))
        · exact .inr hx
      generalize hS : sumN (l.take k) = S at *
      have hbw : Below w.heap.size w ((wr.alloc (.cells #[.int .i64 xb, .int .i64 xn] 63))) := hb2
      have hfin : ∀ n, Below w.heap.size w ((wr.alloc (.cells #[.int .i64 xb, .int .i64 xn] 63)).drewN n) := fun n => hb2.trans (below_drewN _ _ _)
      by_cases h1 : ¬ (-960 ≤ xb ∧ xb < 960)
      · obtain rfl := HOk.out (by rw [HOkd.out]; omega)
        have KB := Lib.hid (fun w => bucket_false h1 w)
        clear h1 HOkd HOk hadd hprev
        go_wp2_with fail
        go_quiet ((go_at_call 34; exact quiet_of_eq (KB.out _)))
        go_wp2_with fail
        go_ret
        exact ⟨rfl, hfin _⟩
      have h1 := Classical.not_not.1 h1
      have KB := Lib.hid (fun w => bucket_true h1 w)
      by_cases h2 : xn < 1
      · have d2 : decide (xn < 1) = true := decide_eq_true h2
        obtain rfl := HOk.out (by rw [HOkd.out]; omega)
        clear h1 HOkd HOk hadd hprev
        go_wp2_with fail
        go_quiet ((go_at_call 34; exact quiet_of_eq (KB.out _)))
        go_wp2_with fail
        go_ret
        exact ⟨rfl, hfin _⟩
      have d2 : decide (xn < 1) = false := decide_eq_false h2
      by_cases h3 : 1099511627776 < xn
      · have d3 : decide (1099511627776 < xn) = true := decide_eq_true h3
        obtain rfl := HOk.out (by rw [HOkd.out]; omega)
        clear h1 HOkd HOk hadd hprev
        go_wp2_with fail
        go_quiet ((go_at_call 34; exact quiet_of_eq (KB.out _)))
        go_wp2_with fail
        go_ret
        exact ⟨rfl, hfin _⟩
      have d3 : decide (1099511627776 < xn) = false := decide_eq_false h3
      have hadd : IntKind.i64.wrap (S + xn) = S + xn := by rcases hadd with hadd | hadd; exact hadd; omega
      rcases hprev with rfl | ⟨j, hkj, hkj1, hjN, hjw, p0⟩
      · simp only [Nat.zero_mul, Nat.add_zero] at r0 r1
        have HO := Lib.hid (show OkAt l 0 from HOkd.out.2 ⟨h1.1, h1.2, by omega, by omega, fun h => by omega⟩)
        clear h1 HOkd HOk
        go_wp2_with fail
        go_quiet ((go_at_call 34; exact quiet_of_eq (KB.out _)))
        go_wp2_with fail
        go_roundw
        case rel => exact ⟨0 + 1, by omega, by go_num, by rw [hts.out], HP.out.succ HO.out, hfin _⟩
        case measure => simp [intOf]; omega
      · rw [hkj1] at HOkd
        have hk0 : 0 < k := by omega
        have d4 : decide (0 < k) = true := decide_eq_true hk0
        generalize l.getD j bk0 = y at *
        obtain ⟨yb, yn⟩ := y
        simp only at p0 HOkd
        by_cases h4 : xb ≤ yb
        · have d5 : decide (xb ≤ yb) = true := decide_eq_true h4
          obtain rfl := HOk.out (by rw [HOkd.out]; omega)
          clear h1 HOkd HOk hkj hkj1
          go_wp2_with fail
          go_quiet ((go_at_call 34; exact quiet_of_eq (KB.out _)))
          go_wp2_with fail
          go_ret
          exact ⟨rfl, hfin _⟩
        · have d5 : decide (xb ≤ yb) = false := decide_eq_false h4
          have HO := Lib.hid (show OkAt l k from HOkd.out.2 ⟨h1.1, h1.2, by omega, by omega, fun h => by omega⟩)
          clear h1 HOkd HOk hkj hkj1
          go_wp2_with fail
          go_quiet ((go_at_call 34; exact quiet_of_eq (KB.out _)))
          go_wp2_with fail
          go_roundw
          case rel => exact ⟨k + 1, by omega, by go_num, by rw [hts.out], HP.out.succ HO.out, hfin _⟩
          case measure => simp [intOf]; omega
    · have hall : l.take k = l := List.take_of_length_le (by omega)
      have hkl : k = l.length := by omega
      rw [hall] at hsum ⊢
      have hP := HP.out
      rw [hkl] at hP
      by_cases hs : 1099511627776 < sumN l
      · obtain rfl := HNO.out (fun hm => by have := hm.2; omega)
        clear hP hall hkl
        go_wp2_with fail
        go_ret
        exact ⟨rfl, hb⟩
      · obtain rfl := HYES.out ⟨hP, by omega⟩
        clear hP hall hkl
        go_wp2_with fail
        go_ret
        exact ⟨rfl, hb⟩

set_option maxRecDepth 100000 in
set_option maxHeartbeats 2000000 in
theorem bk_count_walk (l : List Bk) (N : Nat) (a : Option Addr) (c B : Nat) (w : World) (hN : l.length = N) (hlen : N ≤ 2000) (hm : MayS l) (h : Sl w B a (bkCells l)) (hB : B ≤ w.heap.size) :
    Calls Try.prog 21 #[.slice a N c] w fun e w' => e = .returned (.int .i64 (sumN l)) ∧ Below w.heap.size w w' := by
  have HC := Lib.hid (fun w h hB => bk_check_walk l N a c B w 0 hN hlen (.inl ⟨hm, rfl⟩) h hB)
  have HM := Lib.hid hm
  clear hm
  go_enter Try.func21, Try.ntmps21
  go_wp2_with fail
  refine (HC.out _ h hB).mono ?_
  rintro e w1 ⟨rfl, g1⟩
  have h1 := h.below g1 hB
  have hB1 := Nat.le_trans hB g1.size
  go_wp2_with fail
  go_loopw [3, 11] (fun S i wr => ∃ k : Nat, k ≤ N ∧ i = .int .i64 k ∧ S = .int .i64 (sumN (l.take k)) ∧ Below w1.heap.size w1 wr) (fun _ i _ => N - (intOf i).toNat)
  case atStart => exact ⟨0, by omega, rfl, rfl, Below.refl _ _⟩
  case round =>
    obtain ⟨k, hk, rfl, rfl, hb⟩ := hrel
    have hsum := pre_sum k (by omega) (fun i hi => HM.out.1 i (by omega))
    by_cases hlt : k < N
    · obtain ⟨b1, o1, rfl, hb1, hc⟩ := (h1.below hb hB1).bk (by omega)
      obtain ⟨r0, r1⟩ := hc k (by omega)
      have hz1 : b1 < wr.heap.size := by have := hb.size; omega
      have hal : Below wr.heap.size wr (wr.alloc (.cells #[.int .i64 (l.getD k bk0).b, .int .i64 (l.getD k bk0).n] 63)) := (Below.refl _ _).alloc (Nat.le_refl _) _
      have hb2 := hb.trans (hal.mono hb.size)
      have hts := Lib.hid (sumN_take l k (by omega))
      have hsum2 := pre_sum (k + 1) (by omega) (fun i hi => HM.out.1 i (by omega))
      rw [sumN_take l k (by omega)] at hsum2
      clear hc h h1
      generalize l.getD k bk0 = x at *
      obtain ⟨xb, xn⟩ := x
      simp only at r0 r1 hal hb2 hts hsum2
      generalize hS : sumN (l.take k) = S at *
      have hadd : IntKind.i64.wrap (S + xn) = S + xn := IntWalk.i64_in _ (by omega)
      go_wp2_with fail
      go_roundw
      case rel => exact ⟨k + 1, by omega, by go_num, by rw [hts.out], hb2⟩
      case measure => simp [intOf]; omega
    · have hall : l.take k = l := List.take_of_length_le (by omega)
      rw [hall]
      go_wp2_with fail
      go_ret
      exact ⟨rfl, g1.trans (hb.mono g1.size)⟩
end Go.Proofs.Ytbljhmcenjmjjaa
