/- The walks of headgateref29.May, Count, Rank. -/
import Derived.Test.YtbljhmcenjmjjaaBkQuant
namespace Go.Proofs.Ytbljhmcenjmjjaa
open Go.RowKit Vm Sk
set_option linter.unusedVariables false

set_option maxRecDepth 100000 in
set_option maxHeartbeats 4000000 in
theorem rank_walk (n part of R : Int) (w : World) (hn : 0 ≤ n) (hn2 : n ≤ 1099511627776) (hp : 0 ≤ part) (hp2 : part ≤ of) (ho : 1 ≤ of) (ho2 : of ≤ 1000000) (hR : R = rankA n part of) :
    Calls Try.prog 29 #[.int .i64 n, .int .i64 part, .int .i64 of] w fun e w' => e = .returned (.int .i64 R) ∧ w' = w := by
  have he := rank_eq hn hp ho
  have hle := rank_le hn hp hp2 ho
  have hr0 : 0 ≤ n % of := Int.emod_nonneg _ (by omega)
  have hr1 : n % of < of := Int.emod_lt_of_pos _ (by omega)
  have hq0 : 0 ≤ n / of := Int.ediv_nonneg hn (by omega)
  have hq1 : n / of ≤ n := Int.ediv_le_self _ hn
  have hb1 := mul_bound (n := n / of) (part := part) hq0 (by omega) hp (by omega)
  have hb2 := mul_bound (n := n % of) (part := part) hr0 (by omega) hp (by omega)
  have hm0 : 0 ≤ n % of * part % of := Int.emod_nonneg _ (by omega)
  have hm1 : n % of * part % of < of := Int.emod_lt_of_pos _ (by omega)
  have hd0 : 0 ≤ n % of * part / of := Int.ediv_nonneg hb2.1 (by omega)
  have hd1 : n % of * part / of ≤ n % of * part := Int.ediv_le_self _ hb2.1
  have t1 : n.tdiv of = n / of := Int.tdiv_eq_ediv_of_nonneg hn
  have t2 : n.tmod of = n % of := Int.tmod_eq_emod_of_nonneg hn
  have t3 : (n % of * part).tdiv of = n % of * part / of := Int.tdiv_eq_ediv_of_nonneg hb2.1
  have t4 : (n % of * part).tmod of = n % of * part % of := Int.tmod_eq_emod_of_nonneg hb2.1
  unfold rankA at hR
  generalize n / of = q at *
  generalize n % of = r at *
  generalize hx : q * part = x at *
  generalize hy : r * part = y at *
  generalize y / of = d at *
  generalize y % of = m at *
  generalize (n * part + of - 1) / of = D at *
  have w1 : IntKind.i64.wrap q = q := IntWalk.i64_in _ (by omega)
  have w2 : IntKind.i64.wrap (q * part) = x := by rw [hx]; exact IntWalk.i64_in _ (by omega)
  have w3 : IntKind.i64.wrap r = r := IntWalk.i64_in _ (by omega)
  have w4 : IntKind.i64.wrap (r * part) = y := by rw [hy]; exact IntWalk.i64_in _ (by omega)
  have w5 : IntKind.i64.wrap d = d := IntWalk.i64_in _ (by omega)
  have w6 : IntKind.i64.wrap (x + d) = x + d := IntWalk.i64_in _ (by omega)
  have w7 : IntKind.i64.wrap m = m := IntWalk.i64_in _ (by omega)
  have w8 : IntKind.i64.wrap (x + d + 1) = x + d + 1 := IntWalk.i64_in _ (by omega)
  have o1 : ¬ of = 0 := by omega
  have o2 : ¬ of = -1 := by omega
  clear hx hy hle hr0 hr1 hq0 hq1 hd1 hp hp2 ho ho2 hn hn2 hm1 hb1 hb2
  by_cases hm : 0 < m
  · rw [if_pos hm] at he
    have hne : ¬ D < 1 ∨ D < 1 := by omega
    by_cases h1 : x + d + 1 < 1
    · obtain rfl : R = 1 := by rw [hR, if_pos (by omega)]
      clear he hR
      go_enter Try.func29, Try.ntmps29
      go_wp2_with fail
      go_ret
      exact ⟨rfl, rfl⟩
    · obtain rfl : R = x + d + 1 := by rw [hR, if_neg (by omega)]; omega
      clear he hR
      go_enter Try.func29, Try.ntmps29
      go_wp2_with fail
      go_ret
      exact ⟨rfl, rfl⟩
  · rw [if_neg hm] at he
    by_cases h1 : x + d < 1
    · obtain rfl : R = 1 := by rw [hR, if_pos (by omega)]
      clear he hR
      go_enter Try.func29, Try.ntmps29
      go_wp2_with fail
      go_ret
      exact ⟨rfl, rfl⟩
    · obtain rfl : R = x + d := by rw [hR, if_neg (by omega)]; omega
      clear he hR
      go_enter Try.func29, Try.ntmps29
      go_wp2_with fail
      go_ret
      exact ⟨rfl, rfl⟩
/-- The walk of May. -/
theorem may_sum {l : List Bk} {k : Nat} (hk : k < l.length) (hs : 1099511627776 < sumN (l.take (k + 1))) : ¬ MayS l := fun hm => by
  have := sum_mono (k + 1) (by omega) hm.1
  have := hm.2
  omega
set_option maxRecDepth 100000 in
set_option maxHeartbeats 4000000 in
theorem rmay29_walk (l : List Bk) (N : Nat) (a : Option Addr) (c B : Nat) (w : World) (d : Bool) (hN : l.length = N) (hlen : N ≤ 2000) (hd : d = true ↔ MayS l) (h : Sl w B a (bkCells l)) (hB : B ≤ w.heap.size) :
    Calls Try.prog 24 #[.slice a N c] w fun e w' => e = .returned (.bool d) ∧ Below w.heap.size w w' := by
  have HNO := Lib.hid (show ¬ MayS l → d = false from fun h => by rw [Bool.eq_false_iff, Ne, hd]; exact h)
  have HYES := Lib.hid (show MayS l → d = true from fun h => hd.2 h)
  clear hd
  go_enter Try.func24, Try.ntmps24
  go_wp2_with fail
  go_loopw [3, 4] (fun S i wr => ∃ k : Nat, k ≤ N ∧ i = .int .i64 k ∧ S = .int .i64 (sumN (l.take k)) ∧ Pre l k ∧ sumN (l.take k) ≤ 1099511627776 ∧ Below w.heap.size w wr) (fun _ i _ => N - (intOf i).toNat)
  case atStart => exact ⟨0, by omega, rfl, rfl, Pre.zero l, by simp [sumN], Below.refl _ _⟩
  case round =>
    obtain ⟨k, hk, rfl, rfl, hpre, hsm, hb⟩ := hrel
    have HP := Lib.hid hpre
    have hsum := pre_sum k (by omega) hpre
    clear hpre
    by_cases hlt : k < N
    · obtain ⟨b1, o1, rfl, hb1, hc⟩ := (h.below hb hB).bk (by omega)
      obtain ⟨r0, r1⟩ := hc k (by omega)
      have hz1 : b1 < wr.heap.size := by have := hb.size; omega
      have hts := Lib.hid (sumN_take l k (by omega))
      have HOk := Lib.hid (show ¬ OkAt l k → d = false from fun hno => HNO.out (fun hm => hno (hm.1 k (by omega))))
      have HSm := Lib.hid (show 1099511627776 < sumN (l.take (k + 1)) → d = false from fun hno => HNO.out (may_sum (by omega) hno))
      have HOkd := Lib.hid (show OkAt l k ↔ (-960 ≤ (l.getD k bk0).b ∧ (l.getD k bk0).b < 960 ∧ 1 ≤ (l.getD k bk0).n ∧ (l.getD k bk0).n ≤ 1099511627776 ∧ (0 < k → (l.getD (k - 1) bk0).b < (l.getD k bk0).b)) from Iff.rfl)
      have hprev : k = 0 ∨ ∃ j : Nat, k = j + 1 ∧ k - 1 = j ∧ j < N ∧ IntKind.i64.wrap ((k : Int) - 1) = (j : Int) ∧ wr.cell? ⟨b1, o1 + j * 2, none⟩ = some (.int .i64 (l.getD j bk0).b) := by
        cases k with
        | zero => exact .inl rfl
        | succ j => exact .inr ⟨j, rfl, by omega, by omega, by rw [IntWalk.i64_in _ (by omega)]; omega, (hc j (by omega)).1⟩
      clear hc h
      generalize l.getD k bk0 = x at *
      obtain ⟨xb, xn⟩ := x
      simp only at r0 r1 hts HOkd
      rw [hts.out] at HSm
      generalize hS : sumN (l.take k) = S at *
      have hw3 : IntKind.i64.wrap (1099511627776 - S) = 1099511627776 - S := IntWalk.i64_in _ (by omega)
      have hfin : ∀ n, Below w.heap.size w (wr.drewN n) := fun n => hb.trans (below_drewN _ _ _)
      by_cases h1 : xb < -960
      · have d1 : decide (xb < -960) = true := decide_eq_true h1
        obtain rfl := HOk.out (by rw [HOkd.out]; omega)
        clear HOkd HOk HSm hprev
        go_wp2_with fail
        go_quiet (fail)
        go_wp2_with fail
        go_ret
        exact ⟨rfl, hfin _⟩
      have d1 : decide (xb < -960) = false := decide_eq_false h1
      by_cases h1b : 960 ≤ xb
      · have d1b : decide (960 ≤ xb) = true := decide_eq_true h1b
        obtain rfl := HOk.out (by rw [HOkd.out]; omega)
        clear HOkd HOk HSm hprev
        go_wp2_with fail
        go_quiet (fail)
        go_wp2_with fail
        go_ret
        exact ⟨rfl, hfin _⟩
      have d1b : decide (960 ≤ xb) = false := decide_eq_false h1b
      by_cases h2 : xn < 1
      · have d2 : decide (xn < 1) = true := decide_eq_true h2
        obtain rfl := HOk.out (by rw [HOkd.out]; omega)
        clear HOkd HOk HSm hprev
        go_wp2_with fail
        go_quiet (fail)
        go_wp2_with fail
        go_ret
        exact ⟨rfl, hfin _⟩
      have d2 : decide (xn < 1) = false := decide_eq_false h2
      by_cases h3 : 1099511627776 - S < xn
      · have d3 : decide (1099511627776 - S < xn) = true := decide_eq_true h3
        obtain rfl := HSm.out (by omega)
        clear HOkd HOk HSm hprev
        go_wp2_with fail
        go_quiet (fail)
        go_wp2_with fail
        go_ret
        exact ⟨rfl, hfin _⟩
      have d3 : decide (1099511627776 - S < xn) = false := decide_eq_false h3
      have hadd : IntKind.i64.wrap (S + xn) = S + xn := IntWalk.i64_in _ (by omega)
      rcases hprev with rfl | ⟨j, hkj, hkj1, hjN, hjw, p0⟩
      · simp only [Nat.zero_mul, Nat.add_zero] at r0 r1
        have HO := Lib.hid (show OkAt l 0 from HOkd.out.2 ⟨by omega, by omega, by omega, by omega, fun h => by omega⟩)
        clear HOkd HOk HSm
        go_wp2_with fail
        go_quiet (fail)
        go_wp2_with fail
        go_roundw
        case rel => exact ⟨0 + 1, by omega, by go_num, by rw [hts.out], HP.out.succ HO.out, by rw [hts.out]; omega, hfin _⟩
        case measure => simp [intOf]; omega
      · rw [hkj1] at HOkd
        have hk0 : 0 < k := by omega
        have d4 : decide (0 < k) = true := decide_eq_true hk0
        generalize l.getD j bk0 = y at *
        obtain ⟨yb, yn⟩ := y
        simp only at p0 HOkd
        by_cases h4 : xb ≤ yb
        · have d5 : decide (xb ≤ yb) = true := decide_eq_true h4
          obtain rfl := HOk.out (by rw [HOkd.out]; omega)
          clear HOkd HOk HSm hkj hkj1
          go_wp2_with fail
          go_quiet (fail)
          go_wp2_with fail
          go_ret
          exact ⟨rfl, hfin _⟩
        · have d5 : decide (xb ≤ yb) = false := decide_eq_false h4
          have HO := Lib.hid (show OkAt l k from HOkd.out.2 ⟨by omega, by omega, by omega, by omega, fun h => by omega⟩)
          clear HOkd HOk HSm hkj hkj1
          go_wp2_with fail
          go_quiet (fail)
          go_wp2_with fail
          go_roundw
          case rel => exact ⟨k + 1, by omega, by go_num, by rw [hts.out], HP.out.succ HO.out, by rw [hts.out]; omega, hfin _⟩
          case measure => simp [intOf]; omega
    · have hall : l.take k = l := List.take_of_length_le (by omega)
      have hkl : k = l.length := by omega
      rw [hall] at hsm
      have hP := HP.out
      rw [hkl] at hP
      obtain rfl := HYES.out ⟨hP, hsm⟩
      clear hP hall hkl
      go_wp2_with fail
      go_ret
      exact ⟨rfl, hb⟩

set_option maxRecDepth 100000 in
set_option maxHeartbeats 2000000 in
theorem rcount29_walk (l : List Bk) (N : Nat) (a : Option Addr) (c B : Nat) (w : World) (hN : l.length = N) (hlen : N ≤ 2000) (hm : MayS l) (h : Sl w B a (bkCells l)) (hB : B ≤ w.heap.size) :
    Calls Try.prog 22 #[.slice a N c] w fun e w' => e = .returned (.int .i64 (sumN l)) ∧ Below w.heap.size w w' := by
  have HC := Lib.hid (fun w h hB => rmay29_walk l N a c B w true hN hlen ⟨fun _ => hm, fun _ => rfl⟩ h hB)
  have HM := Lib.hid hm
  clear hm
  go_enter Try.func22, Try.ntmps22
  go_wp2_with fail
  refine (HC.out _ h hB).mono ?_
  rintro e w1 ⟨rfl, g1⟩
  have h1 := h.below g1 hB
  have hB1 := Nat.le_trans hB g1.size
  go_wp2_with fail
  go_loop [3, 4] (fun S i => ∃ k : Nat, k ≤ N ∧ i = .int .i64 k ∧ S = .int .i64 (sumN (l.take k))) (fun _ i => N - (intOf i).toNat)
  case atStart => exact ⟨0, by omega, rfl, rfl⟩
  case round =>
    obtain ⟨k, hk, rfl, rfl⟩ := hrel
    have hsum := pre_sum k (by omega) (fun i hi => HM.out.1 i (by omega))
    by_cases hlt : k < N
    · obtain ⟨b1, o1, rfl, hb1, hc⟩ := h1.bk (by omega)
      obtain ⟨r0, r1⟩ := hc k (by omega)
      have hz1 : b1 < w1.heap.size := by omega
      have hts := Lib.hid (sumN_take l k (by omega))
      have hsum2 := pre_sum (k + 1) (by omega) (fun i hi => HM.out.1 i (by omega))
      rw [sumN_take l k (by omega)] at hsum2
      clear hc h h1
      generalize l.getD k bk0 = x at *
      obtain ⟨xb, xn⟩ := x
      simp only at r0 r1 hts hsum2
      generalize hS : sumN (l.take k) = S at *
      have hadd : IntKind.i64.wrap (S + xn) = S + xn := IntWalk.i64_in _ (by omega)
      go_wp2_with fail
      go_round
      case rel => exact ⟨k + 1, by omega, by go_num, by rw [hts.out]⟩
      case measure => simp [intOf]; omega
    · have hall : l.take k = l := List.take_of_length_le (by omega)
      rw [hall]
      go_wp2_with fail
      go_ret
      exact ⟨rfl, g1⟩
end Go.Proofs.Ytbljhmcenjmjjaa
