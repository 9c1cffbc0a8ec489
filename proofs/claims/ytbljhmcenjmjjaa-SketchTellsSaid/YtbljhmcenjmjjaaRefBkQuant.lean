/- The walk of headgateref29.Quantile. -/
import Derived.Test.YtbljhmcenjmjjaaRefBk
namespace Go.Proofs.Ytbljhmcenjmjjaa
open Go.RowKit Vm Sk
set_option linter.unusedVariables false

set_option maxRecDepth 100000 in
set_option maxHeartbeats 4000000 in
theorem rbk_quant_walk (l : List Bk) (N : Nat) (a : Option Addr) (c B : Nat) (part of Q E : Int) (w : World) (hN : l.length = N) (hlen : N ≤ 2000) (hQ : QuIs l part of Q E) (h : Sl w B a (bkCells l)) (hB : B ≤ w.heap.size) :
    Calls Try.prog 28 #[.slice a N c, .int .i64 part, .int .i64 of] w fun e w' => e = .returned (.tuple #[.int .i64 Q, .int .i64 E]) ∧ Below w.heap.size w w' := by
  rcases hQ with ⟨hg, rfl, rfl⟩ | ⟨hg, rfl, rfl, rfl⟩ | ⟨hg, hl, hQ, rfl⟩
  · by_cases hm : MayS l
    · have HC := Lib.hid (fun w h hB => rmay29_walk l N a c B w true hN hlen ⟨fun _ => hm, fun _ => rfl⟩ h hB)
      have hbad : of < 1 ∨ (¬ of < 1 ∧ 1000000 < of) ∨ (¬ of < 1 ∧ ¬ 1000000 < of ∧ part < 0) ∨ (¬ of < 1 ∧ ¬ 1000000 < of ∧ ¬ part < 0 ∧ of < part) := by
        have : ¬ (1 ≤ of ∧ of ≤ 1000000 ∧ 0 ≤ part ∧ part ≤ of) := fun h => hg ⟨hm, h⟩
        omega
      clear hm hg
      go_enter Try.func28, Try.ntmps28
      go_wp2_with fail
      refine (HC.out _ h hB).mono ?_
      rintro e w1 ⟨rfl, g1⟩
      rcases hbad with q0 | ⟨q0, q1⟩ | ⟨q0, q1, q2⟩ | ⟨q0, q1, q2, q3⟩
      all_goals
        go_wp2_with fail
        go_ret2
        exact ⟨rfl, g1⟩
    · have HC := Lib.hid (fun w h hB => rmay29_walk l N a c B w false hN hlen ⟨fun h => (by cases h), fun h => absurd h hm⟩ h hB)
      clear hm hg
      go_enter Try.func28, Try.ntmps28
      go_wp2_with fail
      refine (HC.out _ h hB).mono ?_
      rintro e w1 ⟨rfl, g1⟩
      go_wp2_with fail
      go_ret2
      exact ⟨rfl, g1⟩
  · have HC := Lib.hid (fun w h hB => rmay29_walk [] N a c B w true hN hlen ⟨fun _ => hg.1, fun _ => rfl⟩ h hB)
    obtain ⟨_, g1, g2, g3, g4⟩ := hg
    obtain rfl : N = 0 := hN.symm
    go_enter Try.func28, Try.ntmps28
    go_wp2_with fail
    refine (HC.out _ h hB).mono ?_
    rintro e w1 ⟨rfl, gb⟩
    go_wp2_with fail
    go_ret2
    exact ⟨rfl, gb⟩
  have hm := hg.1
  have HC := Lib.hid (fun w h hB => rmay29_walk l N a c B w true hN hlen ⟨fun _ => hm, fun _ => rfl⟩ h hB)
  have HN := Lib.hid (fun w h hB => rcount29_walk l N a c B w hN hlen hm h hB)
  have HM := Lib.hid hm
  obtain ⟨f1, f2, _, _, _, _, f7, f8⟩ := rank_facts hg hl
  have hN0 : 0 < N := by have := List.length_pos_iff.2 hl; omega
  have hN1 : ¬ N = 0 := by omega
  obtain ⟨_, g1, g2, g3, g4⟩ := hg
  have HR := Lib.hid (fun w => rank_walk (sumN l) part of (rankA (sumN l) part of) w (by omega) f2 g3 g4 g1 g2 rfl)
  generalize rankA (sumN l) part of = R at *
  have HQ := Lib.hid hQ
  clear hQ hm hl
  generalize hC : sumN l = C at *
  have HCl := Lib.hid hC
  clear hC
  go_enter Try.func28, Try.ntmps28
  go_wp2_with fail
  refine (HC.out _ h hB).mono ?_
  rintro e w1 ⟨rfl, gb⟩
  have h1 := h.below gb hB
  go_wp2_with fail
  refine (HN.out _ h1 (Nat.le_trans hB gb.size)).mono ?_
  rintro e w2 ⟨rfl, gb2⟩
  have h1 := h1.below gb2 (Nat.le_trans hB gb.size)
  have gb := gtrans gb gb2
  clear gb2 h
  go_wp2_with fail
  refine (HR.out _).mono ?_
  rintro e w3 ⟨rfl, rfl⟩
  go_wp2_with fail
  go_loop [8, 9] (fun S i => ∃ (k : Nat) (S' : Int), k < N ∧ i = .int .i64 k ∧ S = .int .i64 S' ∧ 1 ≤ S' ∧ S' ≤ sumN (l.drop k) ∧ quI (l.drop k) S' = Q) (fun _ i => N - (intOf i).toNat)
  case atStart => exact ⟨0, _, by omega, rfl, rfl, by omega, by rw [List.drop_zero, HCl.out]; omega, by rw [List.drop_zero]; exact HQ.out.symm⟩
  case round =>
    obtain ⟨k, S', hk, rfl, rfl, hs1, hs2, hq⟩ := hrel
    obtain ⟨b1, o1, rfl, hb1, hc⟩ := h1.bk (by omega)
    obtain ⟨r0, r1⟩ := hc k (by omega)
    have hn := HM.out.1 k (by omega)
    unfold OkAt at hn
    have hn1 := hn.2.2.1
    have hn2 := hn.2.2.2.1
    rw [drop_at l k (by omega)] at hs2 hq
    rw [sumN_cons] at hs2
    rw [quI_cons] at hq
    have HH := Lib.hid hq
    have HD := Lib.hid (show k + 1 < N ∨ sumN (l.drop (k + 1)) = 0 by
      rcases Nat.lt_or_ge (k + 1) N with h2 | h2
      · exact .inl h2
      · exact .inr (by rw [List.drop_of_length_le (by omega)]; rfl))
    have HSB := Lib.hid (sum_drop_le (k + 1) HM.out)
    clear hc hn hq
    generalize l.getD k bk0 = x at *
    obtain ⟨xb, xn⟩ := x
    simp only at r0 r1 hn1 hn2 hs2 HH
    by_cases hgt : xn < S'
    · have hsub : IntKind.i64.wrap (S' - xn) = S' - xn := by
        have := HSB.out
        exact IntWalk.i64_in _ (by omega)
      have hq2 := HH.out
      rw [if_pos hgt] at hq2
      have HQ2 := Lib.hid hq2
      clear hq2
      go_wp2_with fail
      go_round
      case rel => exact ⟨k + 1, S' - xn, by rcases HD.out with h2 | h2; exact h2; omega, by go_num, rfl, by omega, by omega, HQ2.out⟩
      case measure => simp [intOf]; omega
    · have hq2 := HH.out
      rw [if_neg hgt] at hq2
      subst hq2
      go_wp2_with fail
      go_ret2
      exact ⟨rfl, gb⟩

end Go.Proofs.Ytbljhmcenjmjjaa
