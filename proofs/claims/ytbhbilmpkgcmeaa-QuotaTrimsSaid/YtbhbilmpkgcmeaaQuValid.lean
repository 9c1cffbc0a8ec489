/- The walks of quota.available and quota.valid. -/
import Derived.Test.YtbhbilmpkgcmeaaQuSmall
namespace Go.Proofs.Ytbhbilmpkgcmeaa
open Go.RowKit Vm
set_option linter.unusedVariables false

set_option maxRecDepth 100000 in
set_option maxHeartbeats 1000000 in
theorem avail_walk (t m : Int) (a : Ac) (now : Int) (w : World) (ht : MayQ t m) (hl : 0 ≤ a.l ∧ a.l ≤ m) (hs : 0 ≤ a.s ∧ a.s ≤ now) (hn : now ≤ 1099511627776) :
    Calls Try.prog 67 #[.agg #[.int .i64 t, .int .i64 m], .agg #[.int .i64 a.o, .int .i64 a.l, .int .i64 a.s], .int .i64 now] w fun e w' => e = .returned (.int .i64 (availQ t m a now)) ∧ Below w.heap.size w w' := by
  have hal : Below w.heap.size w ((w.alloc (.cells #[.int .i64 t, .int .i64 m] 60)).alloc (.cells #[.int .i64 a.o, .int .i64 a.l, .int .i64 a.s] 102)) := ((Below.refl _ _).alloc (Nat.le_refl _) _).alloc (by simp) _
  have hb := mul_boundQ (t := t) (d := now - a.s) (by have := ht.1; omega) ht.2.1 (by omega) (by omega)
  have hw1 : IntKind.i64.wrap (now - a.s) = now - a.s := IntWalk.i64_in _ (by omega)
  have hw2 : wrap64 (t * (now - a.s)) = t * (now - a.s) := IntWalk.wrap64_in _ (by omega)
  have hw3 : wrap64 (a.l + t * (now - a.s)) = a.l + t * (now - a.s) := IntWalk.wrap64_in _ (by have := ht.2.2.2; omega)
  obtain ⟨o, l, s⟩ := a
  simp only [availQ] at *
  obtain ⟨h1, h2, h3, h4⟩ := ht
  by_cases hc : m ≤ l + t * (now - s)
  · rw [if_pos hc]
    clear hs hl hb
    go_enter Try.func67, Try.ntmps67
    go_wp2_with fail
    go_ret
    exact ⟨rfl, hal⟩
  · rw [if_neg hc]
    clear hs hl hb
    go_enter Try.func67, Try.ntmps67
    go_wp2_with fail
    go_ret
    exact ⟨rfl, hal⟩

set_option maxRecDepth 100000 in
set_option maxHeartbeats 4000000 in
theorem qvalid_walk (t m : Int) (l : List Ac) (N : Nat) (a : Option Addr) (c B : Nat) (now : Int) (w : World) (d : Bool) (hN : l.length = N) (hd : (RightQ t m l now ∧ d = true) ∨ (¬ RightQ t m l now ∧ d = false)) (h : Sl w B a (acCells l)) (hB : B ≤ w.heap.size) :
    Calls Try.prog 60 #[.agg #[.int .i64 t, .int .i64 m], .slice a N c, .int .i64 now] w fun e w' => e = .returned (.bool d) ∧ Below w.heap.size w w' := by
  have HNO := Lib.hid (show ¬ RightQ t m l now → d = false from fun h => by rcases hd with h1 | h1; exact absurd h1.1 h; exact h1.2)
  have HYES := Lib.hid (show RightQ t m l now → d = true from fun h => by rcases hd with h1 | h1; exact h1.2; exact absurd h h1.1)
  clear hd
  have hal : Below w.heap.size w (w.alloc (.cells #[.int .i64 t, .int .i64 m] 60)) := balloc _ _
  by_cases hr : ¬ MayQ t m
  · have HC := Lib.hid (fun w => qcheck_no t m w hr)
    obtain rfl := HNO.out (fun h => hr h.1)
    clear hr HNO HYES
    go_enter Try.func60, Try.ntmps60
    go_wp2_with fail
    refine (HC.out _).mono ?_
    rintro e w1 ⟨rfl, g1⟩
    go_wp2_with fail
    go_ret
    exact ⟨rfl, gtrans hal g1⟩
  have hr := Classical.not_not.1 hr
  have HC := Lib.hid (fun w => qcheck_yes t m w hr)
  by_cases hn : ¬ (0 ≤ now ∧ now ≤ 1099511627776)
  · have HN2 := Lib.hid (fun w => number_no now w hn)
    obtain rfl := HNO.out (fun h => hn h.2.1)
    clear hr hn HNO HYES
    go_enter Try.func60, Try.ntmps60
    go_wp2_with fail
    refine (HC.out _).mono ?_
    rintro e w1 ⟨rfl, g1⟩
    go_wp2_with fail
    refine (HN2.out _).mono ?_
    rintro e w1 ⟨rfl, rfl⟩
    go_wp2_with fail
    go_ret
    exact ⟨rfl, gtrans hal g1⟩
  have hn := Classical.not_not.1 hn
  have HN2 := Lib.hid (fun w => number_yes now w hn.1 hn.2)
  by_cases hl : 64 < N
  · obtain rfl := HNO.out (fun h => by have := h.2.2.1; omega)
    have hl2 : (64 : Int) < (N : Int) := by omega
    clear hr hn HNO HYES
    go_enter Try.func60, Try.ntmps60
    go_wp2_with fail
    refine (HC.out _).mono ?_
    rintro e w1 ⟨rfl, g1⟩
    go_wp2_with fail
    refine (HN2.out _).mono ?_
    rintro e w1 ⟨rfl, rfl⟩
    go_wp2_with fail
    go_ret
    exact ⟨rfl, gtrans hal g1⟩
  have hm0 := hr.2.2.2
  have c0 : ∀ w1, Below (w.heap.size + 1) (w.alloc (.cells #[.int .i64 t, .int .i64 m] 60)) w1 → w1.cell? ⟨w.heap.size, 1, none⟩ = some (.int .i64 m) := fun w1 g => by
    rw [g.cell (by simp), World.cell?_alloc_at _ _ _ _ rfl]; rfl
  have C0 := Lib.hid c0
  have hal2 : w.heap.size + 1 ≤ (w.alloc (.cells #[.int .i64 t, .int .i64 m] 60)).heap.size := by simp
  have HNO2 := Lib.hid (show ∀ k, k < N → ¬ OkQ m now l k → d = false from fun k hk h => HNO.out (fun h2 => h (h2.2.2.2 k (by omega))))
  have HYES2 := Lib.hid (show PreQ m now l N → d = true from fun h => HYES.out ⟨hr, hn, by omega, by rw [hN]; exact h⟩)
  clear c0 HNO HYES hr
  go_enter Try.func60, Try.ntmps60
  go_wp2_with fail
  refine (HC.out _).mono ?_
  rintro e w1 ⟨rfl, g1⟩
  go_wp2_with fail
  refine (HN2.out _).mono ?_
  rintro e w1 ⟨rfl, rfl⟩
  have HW1 := Lib.hid (g1.mono hal2)
  have hws := g1.size
  simp at hws
  have g1 := gtrans hal g1
  have hs1 := h.below g1 hB
  have hB1 := Nat.le_trans hB g1.size
  clear HC HN2 h hal
  go_wp2_with fail
  go_loopw [24] (fun i wr => ∃ k : Nat, k ≤ N ∧ i = .int .i64 k ∧ PreQ m now l k ∧ Below w1.heap.size w1 wr) (fun i _ => N - (intOf i).toNat)
  case atStart => exact ⟨0, by omega, rfl, PreQ.zero m now l, Below.refl _ _⟩
  case round =>
    obtain ⟨k, hk, rfl, hpre, hb⟩ := hrel
    have HP := Lib.hid hpre
    clear hpre
    by_cases hlt : k < N
    · obtain ⟨b1, o1, rfl, hb1, hc⟩ := (hs1.below hb hB1).ac (by omega)
      obtain ⟨r0, r1, r2⟩ := hc k (by omega)
      have hz1 : b1 < wr.heap.size := by have := hb.size; omega
      have hm1 := C0.out _ (HW1.out.trans (hb.mono (by omega)))
      have hz2 : w.heap.size < wr.heap.size := by have := hb.size; omega
      have HOk := Lib.hid (HNO2.out k hlt)
      have HOkd := Lib.hid (show OkQ m now l k ↔ ((0 ≤ (l.getD k ac0).o ∧ (l.getD k ac0).o ≤ 1099511627776) ∧ 0 ≤ (l.getD k ac0).l ∧ (l.getD k ac0).l ≤ m ∧ 0 ≤ (l.getD k ac0).s ∧ (l.getD k ac0).s ≤ now ∧ (0 < k → (l.getD (k - 1) ac0).o < (l.getD k ac0).o)) from Iff.rfl)
      have hal : Below wr.heap.size wr (wr.alloc (.cells #[.int .i64 (l.getD k ac0).o, .int .i64 (l.getD k ac0).l, .int .i64 (l.getD k ac0).s] 102)) := balloc _ _
      have hb2 := hb.trans (hal.mono hb.size)
      have hprev : k = 0 ∨ ∃ j : Nat, k = j + 1 ∧ k - 1 = j ∧ j < N ∧ IntKind.i64.wrap ((k : Int) - 1) = (j : Int) ∧ wr.cell? ⟨b1, o1 + j * 3, none⟩ = some (.int .i64 (l.getD j ac0).o) := by
        cases k with
        | zero => exact .inl rfl
        | succ j => exact .inr ⟨j, rfl, by omega, by omega, by rw [IntWalk.i64_in _ (by omega)]; omega, (hc j (by omega)).1⟩
      clear hc hs1 hal
      generalize l.getD k ac0 = x at *
      obtain ⟨xo, xl, xs⟩ := x
      simp only at r0 r1 r2 hb2 HOkd
      have hfin : ∀ n, Below w.heap.size w ((wr.alloc (.cells #[.int .i64 xo, .int .i64 xl, .int .i64 xs] 102)).drewN n) := fun n => gtrans g1 (hb2.trans (below_drewN _ _ _))
      have hfin2 : ∀ n, Below w1.heap.size w1 ((wr.alloc (.cells #[.int .i64 xo, .int .i64 xl, .int .i64 xs] 102)).drewN n) := fun n => hb2.trans (below_drewN _ _ _)
      have HF := Lib.hid hfin
      have HF2 := Lib.hid hfin2
      clear hfin hfin2
      by_cases h1 : ¬ (0 ≤ xo ∧ xo ≤ 1099511627776)
      · obtain rfl := HOk.out (by rw [HOkd.out]; omega)
        have KB := Lib.hid (fun w => number_no xo w h1)
        clear h1 HOkd HOk hprev
        go_wp2_with fail
        go_quiet ((go_at_call 61; exact quiet_of_eq (KB.out _)))
        go_wp2_with fail
        go_ret
        exact ⟨rfl, HF.out _⟩
      have h1 := Classical.not_not.1 h1
      have KB := Lib.hid (fun w => number_yes xo w h1.1 h1.2)
      by_cases h2 : xl < 0
      · have d2 : decide (xl < 0) = true := decide_eq_true h2
        obtain rfl := HOk.out (by rw [HOkd.out]; omega)
        clear h1 HOkd HOk hprev
        go_wp2_with fail
        go_quiet ((go_at_call 61; exact quiet_of_eq (KB.out _)))
        go_wp2_with fail
        go_ret
        exact ⟨rfl, HF.out _⟩
      have d2 : decide (xl < 0) = false := decide_eq_false h2
      by_cases h3 : m < xl
      · have d3 : decide (m < xl) = true := decide_eq_true h3
        obtain rfl := HOk.out (by rw [HOkd.out]; omega)
        clear h1 HOkd HOk hprev
        go_wp2_with fail
        go_quiet ((go_at_call 61; exact quiet_of_eq (KB.out _)))
        go_wp2_with fail
        go_ret
        exact ⟨rfl, HF.out _⟩
      have d3 : decide (m < xl) = false := decide_eq_false h3
      by_cases h4 : xs < 0
      · have d4 : decide (xs < 0) = true := decide_eq_true h4
        obtain rfl := HOk.out (by rw [HOkd.out]; omega)
        clear h1 HOkd HOk hprev
        go_wp2_with fail
        go_quiet ((go_at_call 61; exact quiet_of_eq (KB.out _)))
        go_wp2_with fail
        go_ret
        exact ⟨rfl, HF.out _⟩
      have d4 : decide (xs < 0) = false := decide_eq_false h4
      by_cases h5 : now < xs
      · have d5 : decide (now < xs) = true := decide_eq_true h5
        obtain rfl := HOk.out (by rw [HOkd.out]; omega)
        clear h1 HOkd HOk hprev
        go_wp2_with fail
        go_quiet ((go_at_call 61; exact quiet_of_eq (KB.out _)))
        go_wp2_with fail
        go_ret
        exact ⟨rfl, HF.out _⟩
      have d5 : decide (now < xs) = false := decide_eq_false h5
      rcases hprev with rfl | ⟨j, hkj, hkj1, hjN, hjw, p0⟩
      · simp only [Nat.zero_mul, Nat.add_zero] at r0 r1 r2
        have HO := Lib.hid (show OkQ m now l 0 from HOkd.out.2 ⟨h1, by omega, by omega, by omega, by omega, fun h => by omega⟩)
        clear h1 HOkd HOk
        go_wp2_with fail
        go_quiet ((go_at_call 61; exact quiet_of_eq (KB.out _)))
        go_wp2_with fail
        go_roundw
        case rel => exact ⟨0 + 1, by omega, by go_num, HP.out.succ HO.out, HF2.out _⟩
        case measure => simp [intOf]; omega
      · rw [hkj1] at HOkd
        have hk0 : 0 < k := by omega
        have dk : decide (0 < k) = true := decide_eq_true hk0
        generalize l.getD j ac0 = y at *
        obtain ⟨yo, yl, ys⟩ := y
        simp only at p0 HOkd
        by_cases h6 : xo ≤ yo
        · have d6 : decide (xo ≤ yo) = true := decide_eq_true h6
          obtain rfl := HOk.out (by rw [HOkd.out]; omega)
          clear h1 HOkd HOk hkj hkj1
          go_wp2_with fail
          go_quiet ((go_at_call 61; exact quiet_of_eq (KB.out _)))
          go_wp2_with fail
          go_ret
          exact ⟨rfl, HF.out _⟩
        · have d6 : decide (xo ≤ yo) = false := decide_eq_false h6
          have HO := Lib.hid (show OkQ m now l k from HOkd.out.2 ⟨h1, by omega, by omega, by omega, by omega, fun h => by omega⟩)
          clear h1 HOkd HOk hkj hkj1
          go_wp2_with fail
          go_quiet ((go_at_call 61; exact quiet_of_eq (KB.out _)))
          go_wp2_with fail
          go_roundw
          case rel => exact ⟨k + 1, by omega, by go_num, HP.out.succ HO.out, HF2.out _⟩
          case measure => simp [intOf]; omega
    · obtain rfl : k = N := by omega
      obtain rfl := HYES2.out HP.out
      go_wp2_with fail
      go_ret
      exact ⟨rfl, gtrans g1 hb⟩
end Go.Proofs.Ytbhbilmpkgcmeaa
