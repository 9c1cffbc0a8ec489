/- The walk of sketch.Quantile. -/
import Derived.Test.YtbljhmcenjmjjaaBkCheck
namespace Go.Proofs.Ytbljhmcenjmjjaa
open Go.RowKit Vm Sk
set_option linter.unusedVariables false

/-- The bucket of the k-th number. -/
def quI : List Bk → Int → Int
  | [], _ => 0
  | x :: t, k => if x.n < k then quI t (k - x.n) else x.b
theorem quI_cons (x : Bk) (t : List Bk) (k : Int) : quI (x :: t) k = if x.n < k then quI t (k - x.n) else x.b := rfl
theorem sumN_cons (x : Bk) (t : List Bk) : sumN (x :: t) = x.n + sumN t := by unfold sumN; simp
theorem drop_at (l : List Bk) (k : Nat) (h : k < l.length) : l.drop k = l.getD k bk0 :: l.drop (k + 1) := by
  rw [List.drop_eq_getElem_cons h]; simp [List.getD, List.getElem?_eq_getElem h]
theorem sum_drop (l : List Bk) (k : Nat) : sumN l = sumN (l.take k) + sumN (l.drop k) := by
  unfold sumN
  rw [← List.sum_append, ← List.map_append, List.take_append_drop]
theorem sum_drop_le {l : List Bk} (k : Nat) (hm : MayS l) : sumN (l.drop k) ≤ 1099511627776 := by
  have h1 := sum_drop l k
  have h2 := hm.2
  have h3 : 0 ≤ sumN (l.take k) := by
    rcases Nat.le_total k l.length with h | h
    · have := (pre_sum k h (fun i hi => hm.1 i (by omega))).1; omega
    · rw [List.take_of_length_le h]; have := (pre_sum l.length (Nat.le_refl _) hm.1).1; rw [List.take_length] at this; omega
  omega
def GoodQ (l : List Bk) (part of : Int) : Prop := MayS l ∧ 1 ≤ of ∧ of ≤ 1000000 ∧ 0 ≤ part ∧ part ≤ of
/-- What Quantile answers. -/
def QuIs (l : List Bk) (part of Q E : Int) : Prop := (¬ GoodQ l part of ∧ Q = 0 ∧ E = 1) ∨ (GoodQ l part of ∧ l = [] ∧ Q = 0 ∧ E = 3) ∨ (GoodQ l part of ∧ l ≠ [] ∧ Q = quI l (rankA (sumN l) part of) ∧ E = 0)
theorem rank_facts {l : List Bk} {part of : Int} (hg : GoodQ l part of) (hl : l ≠ []) :
    1 ≤ sumN l ∧ sumN l ≤ 1099511627776 ∧ 0 ≤ sumN l * part ∧ sumN l * part ≤ 1099511627776000000 ∧ (sumN l * part + of - 1) / of ≤ sumN l ∧ 0 ≤ (sumN l * part + of - 1) / of ∧ 1 ≤ rankA (sumN l) part of ∧ rankA (sumN l) part of ≤ sumN l := by
  obtain ⟨hm, h1, h2, h3, h4⟩ := hg
  have hs : 1 ≤ sumN l := by
    have := (pre_sum l.length (Nat.le_refl _) hm.1).1
    rw [List.take_length] at this
    have : 0 < l.length := List.length_pos_iff.2 hl
    omega
  have hs2 := hm.2
  have hb := mul_bound (n := sumN l) (part := part) (by omega) hs2 h3 (by omega)
  have hr := rank_le (n := sumN l) (by omega) h3 h4 h1
  have h0 : 0 ≤ (sumN l * part + of - 1) / of := Int.ediv_nonneg (by omega) (by omega)
  refine ⟨hs, hs2, hb.1, hb.2, hr, h0, ?_, ?_⟩
  · unfold rankA; split <;> omega
  · unfold rankA; split <;> omega

set_option maxRecDepth 100000 in
set_option maxHeartbeats 4000000 in
theorem bk_quant_walk (l : List Bk) (N : Nat) (a : Option Addr) (c B : Nat) (part of Q E : Int) (w : World) (hN : l.length = N) (hlen : N ≤ 2000) (hQ : QuIs l part of Q E) (h : Sl w B a (bkCells l)) (hB : B ≤ w.heap.size) :
    Calls Try.prog 27 #[.slice a N c, .int .i64 part, .int .i64 of] w fun e w' => e = .returned (.tuple #[.int .i64 Q, .int .i64 E]) ∧ Below w.heap.size w w' := by
  rcases hQ with ⟨hg, rfl, rfl⟩ | ⟨hg, rfl, rfl, rfl⟩ | ⟨hg, hl, hQ, rfl⟩
  · by_cases hm : MayS l
    · have HC := Lib.hid (fun w h hB => bk_check_walk l N a c B w 0 hN hlen (.inl ⟨hm, rfl⟩) h hB)
      have hbad : of < 1 ∨ (¬ of < 1 ∧ 1000000 < of) ∨ (¬ of < 1 ∧ ¬ 1000000 < of ∧ part < 0) ∨ (¬ of < 1 ∧ ¬ 1000000 < of ∧ ¬ part < 0 ∧ of < part) := by
        have : ¬ (1 ≤ of ∧ of ≤ 1000000 ∧ 0 ≤ part ∧ part ≤ of) := fun h => hg ⟨hm, h⟩
        omega
      clear hm hg
      go_enter Try.func27, Try.ntmps27
      go_wp2_with fail
      refine (HC.out _ h hB).mono ?_
      rintro e w1 ⟨rfl, g1⟩
      rcases hbad with q0 | ⟨q0, q1⟩ | ⟨q0, q1, q2⟩ | ⟨q0, q1, q2, q3⟩
      all_goals
        go_wp2_with fail
        go_ret2
        exact ⟨rfl, g1⟩
    · have HC := Lib.hid (fun w h hB => bk_check_walk l N a c B w 1 hN hlen (.inr ⟨hm, rfl⟩) h hB)
      clear hm hg
      go_enter Try.func27, Try.ntmps27
      go_wp2_with fail
      refine (HC.out _ h hB).mono ?_
      rintro e w1 ⟨rfl, g1⟩
      go_wp2_with fail
      go_ret2
      exact ⟨rfl, g1⟩
  · have HC := Lib.hid (fun w h hB => bk_check_walk [] N a c B w 0 hN hlen (.inl ⟨hg.1, rfl⟩) h hB)
    obtain ⟨_, g1, g2, g3, g4⟩ := hg
    obtain rfl : N = 0 := hN.symm
    go_enter Try.func27, Try.ntmps27
    go_wp2_with fail
    refine (HC.out _ h hB).mono ?_
    rintro e w1 ⟨rfl, gb⟩
    go_wp2_with fail
    go_ret2
    exact ⟨rfl, gb⟩
  have hm := hg.1
  have HC := Lib.hid (fun w h hB => bk_check_walk l N a c B w 0 hN hlen (.inl ⟨hm, rfl⟩) h hB)
  have HN := Lib.hid (fun w h hB => bk_count_walk l N a c B w hN hlen hm h hB)
  have HM := Lib.hid hm
  obtain ⟨f1, f2, f3, f4, f5, f6, f7, f8⟩ := rank_facts hg hl
  have hN0 : 0 < N := by have := List.length_pos_iff.2 hl; omega
  have hN1 : ¬ N = 0 := by omega
  obtain ⟨_, g1, g2, g3, g4⟩ := hg
  have hD : (sumN l * part + of - 1).tdiv of = (sumN l * part + of - 1) / of := Int.tdiv_eq_ediv_of_nonneg (by omega)
  have hRk : ((sumN l * part + of - 1) / of ≤ 1 ∧ rankA (sumN l) part of = 1) ∨ (¬ (sumN l * part + of - 1) / of ≤ 1 ∧ rankA (sumN l) part of = (sumN l * part + of - 1) / of) := by
    unfold rankA
    by_cases h1 : (sumN l * part + of - 1) / of ≤ 1
    · exact .inl ⟨h1, by split <;> omega⟩
    · exact .inr ⟨h1, by rw [if_neg (by omega)]⟩
  generalize rankA (sumN l) part of = R at *
  generalize (sumN l * part + of - 1) / of = D at *
  have HQ := Lib.hid hQ
  have HS := Lib.hid (show sumN l = sumN l from rfl)
  clear hQ hm hl
  generalize hC : sumN l = C at *
  generalize hP : C * part = P at *
  have hw0 : IntKind.i64.wrap (C * part) = P := by rw [hP]; exact IntWalk.i64_in _ (by omega)
  have hw1 : IntKind.i64.wrap (P + of) = P + of := IntWalk.i64_in _ (by omega)
  have hw2 : IntKind.i64.wrap (P + of - 1) = P + of - 1 := IntWalk.i64_in _ (by omega)
  have hw3 : IntKind.i64.wrap D = D := IntWalk.i64_in _ (by omega)
  have ho0 : ¬ of = 0 := by omega
  have ho1 : ¬ of = -1 := by omega
  have HCl := Lib.hid hC
  clear hP HS f3 f4 hC
  go_enter Try.func27, Try.ntmps27
  go_wp2_with fail
  refine (HC.out _ h hB).mono ?_
  rintro e w1 ⟨rfl, gb⟩
  have h1 := h.below gb hB
  go_wp2_with fail
  refine (HN.out _ h1 (Nat.le_trans hB gb.size)).mono ?_
  rintro e w2 ⟨rfl, gb2⟩
  have h1 := h1.below gb2 (Nat.le_trans hB gb.size)
  have gb := gtrans gb gb2
  clear gb2 h
  rcases hRk with ⟨hd, rfl⟩ | ⟨hd, rfl⟩
  · go_wp2_with fail
    go_loop [8, 9] (fun S i => ∃ (k : Nat) (S' : Int), k < N ∧ i = .int .i64 k ∧ S = .int .i64 S' ∧ 1 ≤ S' ∧ S' ≤ sumN (l.drop k) ∧ quI (l.drop k) S' = Q) (fun _ i => N - (intOf i).toNat)
    case atStart => exact ⟨0, _, by omega, rfl, rfl, by omega, by rw [List.drop_zero, HCl.out]; omega, by rw [List.drop_zero]; exact HQ.out.symm⟩
    case round =>
      obtain ⟨k, S', hk, rfl, rfl, hs1, hs2, hq⟩ := hrel
      obtain ⟨b1, o1, rfl, hb1, hc⟩ := h1.bk (by omega)
      obtain ⟨r0, r1⟩ := hc k (by omega)
      have hn := HM.out.1 k (by omega)
      unfold OkAt at hn
      have hn1 := hn.2.2.1
      have hn2 := hn.2.2.2.1
      rw [drop_at l k (by omega)] at hs2 hq
      rw [sumN_cons] at hs2
      rw [quI_cons] at hq
      have HH := Lib.hid hq
      have HD := Lib.hid (show k + 1 < N ∨ sumN (l.drop (k + 1)) = 0 by
        rcases Nat.lt_or_ge (k + 1) N with h2 | h2
        · exact .inl h2
        · exact .inr (by rw [List.drop_of_length_le (by omega)]; rfl))
      have HSB := Lib.hid (sum_drop_le (k + 1) HM.out)
      clear hc hn hq
      generalize l.getD k bk0 = x at *
      obtain ⟨xb, xn⟩ := x
      simp only at r0 r1 hn1 hn2 hs2 HH
      by_cases hgt : xn < S'
      · have hsub : IntKind.i64.wrap (S' - xn) = S' - xn := by
          have := HSB.out
          exact IntWalk.i64_in _ (by omega)
        have hq2 := HH.out
        rw [if_pos hgt] at hq2
        have HQ2 := Lib.hid hq2
        clear hq2
        go_wp2_with fail
        go_round
        case rel => exact ⟨k + 1, S' - xn, by rcases HD.out with h2 | h2; exact h2; omega, by go_num, rfl, by omega, by omega, HQ2.out⟩
        case measure => simp [intOf]; omega
      · have hq2 := HH.out
        rw [if_neg hgt] at hq2
        subst hq2
        go_wp2_with fail
        go_ret2
        exact ⟨rfl, gb⟩
  · go_wp2_with fail
    go_loop [8, 9] (fun S i => ∃ (k : Nat) (S' : Int), k < N ∧ i = .int .i64 k ∧ S = .int .i64 S' ∧ 1 ≤ S' ∧ S' ≤ sumN (l.drop k) ∧ quI (l.drop k) S' = Q) (fun _ i => N - (intOf i).toNat)
    case atStart => exact ⟨0, _, by omega, rfl, rfl, by omega, by rw [List.drop_zero, HCl.out]; omega, by rw [List.drop_zero]; exact HQ.out.symm⟩
    case round =>
      obtain ⟨k, S', hk, rfl, rfl, hs1, hs2, hq⟩ := hrel
      obtain ⟨b1, o1, rfl, hb1, hc⟩ := h1.bk (by omega)
      obtain ⟨r0, r1⟩ := hc k (by omega)
      have hn := HM.out.1 k (by omega)
      unfold OkAt at hn
      have hn1 := hn.2.2.1
      have hn2 := hn.2.2.2.1
      rw [drop_at l k (by omega)] at hs2 hq
      rw [sumN_cons] at hs2
      rw [quI_cons] at hq
      have HH := Lib.hid hq
      have HD := Lib.hid (show k + 1 < N ∨ sumN (l.drop (k + 1)) = 0 by
        rcases Nat.lt_or_ge (k + 1) N with h2 | h2
        · exact .inl h2
        · exact .inr (by rw [List.drop_of_length_le (by omega)]; rfl))
      have HSB := Lib.hid (sum_drop_le (k + 1) HM.out)
      clear hc hn hq
      generalize l.getD k bk0 = x at *
      obtain ⟨xb, xn⟩ := x
      simp only at r0 r1 hn1 hn2 hs2 HH
      by_cases hgt : xn < S'
      · have hsub : IntKind.i64.wrap (S' - xn) = S' - xn := by
          have := HSB.out
          exact IntWalk.i64_in _ (by omega)
        have hq2 := HH.out
        rw [if_pos hgt] at hq2
        have HQ2 := Lib.hid hq2
        clear hq2
        go_wp2_with fail
        go_round
        case rel => exact ⟨k + 1, S' - xn, by rcases HD.out with h2 | h2; exact h2; omega, by go_num, rfl, by omega, by omega, HQ2.out⟩
        case measure => simp [intOf]; omega
      · have hq2 := HH.out
        rw [if_neg hgt] at hq2
        subst hq2
        go_wp2_with fail
        go_ret2
        exact ⟨rfl, gb⟩
end Go.Proofs.Ytbljhmcenjmjjaa
