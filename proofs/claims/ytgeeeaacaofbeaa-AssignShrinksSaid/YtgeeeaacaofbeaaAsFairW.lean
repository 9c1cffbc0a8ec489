/- The walk of headgatelaw09.fair. -/
import Derived.Test.YtgeeeaacaofbeaaAsFair
namespace Go.Proofs.Ytgeeeaacaofbeaa
open Go.RowKit Vm As
set_option linter.unusedVariables false
set_option linter.unusedSimpArgs false

theorem sumC_le (L : List Int) (q : Nat) : ∀ s : List Int, (∀ x ∈ s, cnt L x ≤ q + 1) → sumC L s ≤ s.length * q + abv L s q := by
  intro s
  induction s with
  | nil => intro _; simp [sumC]
  | cons z s ih =>
    intro h
    have h1 := ih (fun x hx => h x (List.mem_cons_of_mem _ hx))
    have h3 := h z (List.mem_cons_self ..)
    unfold sumC abv at h1 ⊢
    rw [List.map_cons, List.sum_cons, List.countP_cons, List.length_cons, Nat.add_mul]
    by_cases hz : q < cnt L z
    · simp [hz]; omega
    · simp [hz]; omega
theorem sumC_lt (L : List Int) (q : Nat) : ∀ s : List Int, (∀ x ∈ s, cnt L x ≤ q + 1) → (∃ x ∈ s, cnt L x < q) → sumC L s + 1 ≤ s.length * q + abv L s q := by
  intro s
  induction s with
  | nil => rintro _ ⟨x, hx, _⟩; cases hx
  | cons z s ih =>
    intro h he
    have h0 := sumC_le L q s (fun x hx => h x (List.mem_cons_of_mem _ hx))
    have h3 := h z (List.mem_cons_self ..)
    by_cases hz0 : cnt L z < q
    · unfold sumC abv at h0 ⊢
      rw [List.map_cons, List.sum_cons, List.countP_cons, List.length_cons, Nat.add_mul]
      have hz : ¬ q < cnt L z := by omega
      simp [hz]; omega
    · have h1 := ih (fun x hx => h x (List.mem_cons_of_mem _ hx)) (by
        obtain ⟨x, hx, hl⟩ := he
        rcases List.mem_cons.1 hx with rfl | hx
        · exact absurd hl hz0
        · exact ⟨x, hx, hl⟩)
      unfold sumC abv at h1 ⊢
      rw [List.map_cons, List.sum_cons, List.countP_cons, List.length_cons, Nat.add_mul]
      by_cases hz : q < cnt L z
      · simp [hz]; omega
      · simp [hz]; omega
theorem fair_sum {M : Nat} {m L : List Int} (hm : m.Pairwise (· < ·)) (hp : ∀ x ∈ m, 0 < x) (h : FairL M m L) : sumC L m = M := by
  have e := sumC_all hm hp L h.1.2.1
  have : L.count 0 = 0 := List.count_eq_zero.2 (fun h0 => by have := hp 0 (h.2 0 h0); omega)
  have := h.1.1
  omega
theorem fair_low {M : Nat} {m L : List Int} (hm : m.Pairwise (· < ·)) (hp : ∀ x ∈ m, 0 < x) (h : FairL M m L) : ∀ x ∈ m, M / m.length ≤ cnt L x := fun x hx => by
  rcases Nat.lt_or_ge (cnt L x) (M / m.length) with hl | hl
  · exfalso
    have e := sumC_lt L (M / m.length) m h.1.2.2.1 ⟨x, hx, hl⟩
    rw [fair_sum hm hp h] at e
    have h4 := h.1.2.2.2
    have hdm := Nat.div_add_mod M m.length
    omega
  · exact hl
theorem sumC_take (L m : List Int) (i : Nat) (h : i < m.length) : sumC L (m.take (i + 1)) = sumC L (m.take i) + cnt L (m.getD i 0) := by
  rw [take_one_more m i h]
  unfold sumC
  rw [List.map_append, List.sum_append]; simp
theorem sumC_take_le (L m : List Int) (i : Nat) : sumC L (m.take i) ≤ sumC L m := by
  have : sumC L m = sumC L (m.take i) + sumC L (m.drop i) := by
    unfold sumC
    rw [← List.sum_append, ← List.map_append, List.take_append_drop]
  omega
/-- What fair is asked of. -/
def FairOf (M : Nat) (m L : List Int) : Prop := L.length = M ∧ ((m = [] ∧ L = List.replicate M 0) ∨ (0 < m.length ∧ FairL M m L))
set_option maxRecDepth 100000 in
set_option maxHeartbeats 16000000 in
theorem fair_walk (L xs : List Int) (M N : Nat) (a a1 : Option Addr) (c c1 : Nat) (w : World) (hM1 : 1 ≤ M) (hM2 : M ≤ 64) (hN : xs.length = N) (hNm : N ≤ 1000) (hs : Sl w w.heap.size a (i64s L)) (h1 : Sl w w.heap.size a1 (i64s xs)) (hF : FairOf M (memL xs) L) :
    Calls Try.prog 17 #[.slice a L.length c, .slice a1 N c1, .int .i64 (M : Int)] w fun e w' => e = .returned (.bool true) ∧ Below w.heap.size w w' := by
  have KM := Lib.hid (rmembers_walk xs N a1 c1 w hN hNm h1)
  unfold MemPost at KM
  have HN := Lib.hid hN
  have HS := Lib.hid hs
  have hLM := hF.1
  rw [hLM]
  have HF := Lib.hid hF
  have HLM := Lib.hid hLM
  clear hN hs h1 hF hLM
  go_enter Try.func17, Try.ntmps17
  go_wp2_with fail
  refine KM.out.mono ?_
  rintro e w2 ⟨m, k, a2, c2, hm, hk, rfl, ho, hb2⟩
  have hme := memIs_unique (memL_is xs) hm
  rw [hme] at HF
  have hk2 : k ≤ 1000 := by have := memIs_len hm; rw [HN.out] at this; omega
  have HMI := Lib.hid hm
  have HK := Lib.hid hk
  have HSm := Lib.hid (ownN_sl ho)
  have hw2z := hb2.size
  have HSL := Lib.hid (Sl.grow (HS.out.below hb2 (Nat.le_refl _)) hw2z)
  have hMM : ((M : Int) != (M : Int)) = false := by simp
  clear KM hm hk ho hme
  rcases Nat.eq_zero_or_pos k with hk0 | hk0
  · subst hk0
    have hm0 : m = [] := List.eq_nil_of_length_eq_zero HK.out
    have hL : L = List.replicate M 0 := by
      rcases HF.out.2 with ⟨_, h⟩ | ⟨h, _⟩
      · exact h
      · rw [hm0] at h; simp at h
    have KC := Lib.hid (rcount_walk L M 0 a c w2.heap.size w2 HLM.out (by omega) HSL.out (Nat.le_refl _))
    have hc : cnt L 0 = M := by rw [hL]; simp [cnt]
    rw [hc] at KC
    clear hm0 hL hc
    go_wp2_with fail
    refine KC.out.mono ?_
    rintro e w3 ⟨rfl, hw3⟩
    subst hw3
    go_wp2_with fail
    go_ret
    exact ⟨by first | rfl | simp, hb2⟩
  · have hkz : ((k : Int) == 0) = false := beq_eq_false_iff_ne.2 (by omega)
    have hFL : FairL M m L := by
      rcases HF.out.2 with ⟨h, _⟩ | ⟨_, h⟩
      · rw [h] at HK; have := HK.out; simp at this; omega
      · exact h
    have hms := HMI.out.1
    have hmp : ∀ x ∈ m, 0 < x := fun x hx => ((HMI.out.2 x).1 hx).2
    have HSum := Lib.hid (fair_sum hms hmp hFL)
    have HLow := Lib.hid (fair_low hms hmp hFL)
    have HUp := Lib.hid hFL.1.2.2.1
    rw [HK.out] at HLow HUp
    obtain ⟨q, hq⟩ : ∃ q, M / k = q := ⟨_, rfl⟩
    have hqM : q ≤ 64 := by have := Nat.div_le_self M k; omega
    have Hqd := Lib.hid (show wrap64 ((M : Int) / (k : Int)) = (q : Int) by
      rw [← Int.natCast_ediv, hq, IntWalk.wrap64_in _ (by omega)])
    have Hqs := Lib.hid (show wrap64 ((q : Int) + 1) = ((q + 1 : Nat) : Int) by rw [IntWalk.wrap64_in _ (by omega)]; omega)
    rw [hq] at HLow HUp
    have KC := Lib.hid (fun x => rcount_walk L M x a c w2.heap.size w2 HLM.out (by omega) HSL.out (Nat.le_refl _))
    clear hms hmp hFL hq
    go_upto_region 6 with fail
    go_wp2_with fail
    go_loopw [8, 9] (fun T I wr => ∃ (i s : Nat), i ≤ k ∧ s ≤ 64 ∧ I = .int .i64 i ∧ T = .int .i64 s ∧ Hid (s = sumC L (m.take i)) ∧ wr = w2) (fun _ I _ => k - (intOf I).toNat)
    case atStart => exact ⟨0, 0, Nat.zero_le _, by omega, rfl, rfl, Lib.hid rfl, rfl⟩
    case round =>
      obtain ⟨i, s, hik, hs64, rfl, rfl, HSI, hwr⟩ := hrel
      subst hwr
      by_cases hlt : i < k
      · have hki : (i : Int) < (k : Int) := by omega
        have hi0 : 0 ≤ (i : Int) := by omega
        obtain ⟨b2, o2, rfl, hb2g, hc2⟩ := HSm.out.ints (by rw [HK.out]; omega)
        have r0 := hc2 i (by rw [HK.out]; exact hlt)
        have hxm := memGet (m := m) (j := i) (by rw [HK.out]; exact hlt)
        have HT := Lib.hid (sumC_take L m i (by rw [HK.out]; exact hlt))
        obtain ⟨x, hx⟩ : ∃ x, m.getD i 0 = x := ⟨_, rfl⟩
        rw [hx] at r0 hxm HT
        have hlo := HLow.out x hxm
        have hup := HUp.out x hxm
        have KX := KC.out x
        obtain ⟨cx, hcx⟩ : ∃ cx, cnt L x = cx := ⟨_, rfl⟩
        rw [hcx] at KX hlo hup HT
        have HKX := Lib.hid KX
        have hs2 : s + cx ≤ 64 := by
          have := sumC_take_le L m (i + 1)
          rw [HT.out, ← HSI.out, HSum.out] at this; omega
        have HS2 := Lib.hid (show s + cx = sumC L (m.take (i + 1)) by rw [HT.out, ← HSI.out])
        have Hwi := Lib.hid (show IntKind.i64.wrap ((i : Int) + 1) = ((i + 1 : Nat) : Int) by rw [IntWalk.i64_in _ (by omega)]; omega)
        have Hws := Lib.hid (show IntKind.i64.wrap ((s : Int) + (cx : Int)) = ((s + cx : Nat) : Int) by rw [IntWalk.i64_in _ (by omega)]; omega)
        clear hc2 hx hxm hcx KX
        go_wp2_with fail
        refine HKX.out.mono ?_
        rintro e w4 ⟨rfl, hw4⟩
        subst hw4
        clear HKX r0
        by_cases hcq : cx = q
        · have hg : ((cx : Int) != wrap64 ((M : Int) / (k : Int))) = false := by rw [Hqd.out, hcq]; simp
          clear hcq hlo hup
          go_upto_region 13 with fail
          clear hg
          have hws := Hws.out
          go_upto_region 9 with fail
          clear hws
          have hwi := Hwi.out
          go_wp2_with fail
          go_roundw
          case rel => exact ⟨i + 1, s + cx, by omega, hs2, by go_num, by go_num, HS2, trivial⟩
          case measure => simp [intOf]; omega
        · have hcq2 : cx = q + 1 := by omega
          have hg : ((cx : Int) != wrap64 ((M : Int) / (k : Int))) = true := by rw [Hqd.out]; simp; omega
          have hg2 : ((cx : Int) != wrap64 (wrap64 ((M : Int) / (k : Int)) + 1)) = false := by rw [Hqd.out, Hqs.out, hcq2]; simp
          clear hcq hcq2 hlo hup
          go_upto_region 13 with fail
          clear hg hg2
          have hws := Hws.out
          go_upto_region 9 with fail
          clear hws
          have hwi := Hwi.out
          go_wp2_with fail
          go_roundw
          case rel => exact ⟨i + 1, s + cx, by omega, hs2, by go_num, by go_num, HS2, trivial⟩
          case measure => simp [intOf]; omega
      · obtain rfl : i = k := by omega
        have hsM : s = M := by rw [HSI.out, List.take_of_length_le (by rw [HK.out]; exact Nat.le_refl _)]; exact HSum.out
        subst hsM
        go_wp2_with fail
        go_ret
        exact ⟨by first | rfl | simp, hb2⟩
theorem fairOf_range (p : Int) (xs : List Int) (h : okP p = true) : FairOf p.toNat (memL xs) (rangeF p xs) := by
  have hm := memL_is xs
  unfold rangeF
  rw [if_pos h]
  refine ⟨rangeL_len _ _, ?_⟩
  rcases Nat.eq_zero_or_pos (memL xs).length with h0 | h0
  · have h1 : memL xs = [] := List.eq_nil_of_length_eq_zero h0
    exact .inl ⟨h1, by unfold rangeL; rw [if_pos h1]⟩
  · exact .inr ⟨h0, fair_range _ hm.1 h0⟩
theorem fairOf_sticky (p : Int) (xs os : List Int) (h : okP p = true) : FairOf p.toNat (memL xs) (stickyF p xs os) := by
  have hm := memL_is xs
  unfold stickyF
  rw [if_pos h]
  refine ⟨stickyL_len _ _ _, ?_⟩
  rcases Nat.eq_zero_or_pos (memL xs).length with h0 | h0
  · have h1 : memL xs = [] := List.eq_nil_of_length_eq_zero h0
    exact .inl ⟨h1, by unfold stickyL; rw [if_pos h1]⟩
  · exact .inr ⟨h0, fair_sticky _ _ _ hm.1 (fun x hx => ((hm.2 x).1 hx).2) h0⟩
end Go.Proofs.Ytgeeeaacaofbeaa
