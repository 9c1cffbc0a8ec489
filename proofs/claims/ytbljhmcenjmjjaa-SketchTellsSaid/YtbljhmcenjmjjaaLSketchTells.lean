/- The walk of the statement SketchTells of layer 29. -/
import Derived.Test.YtbljhmcenjmjjaaBkTell
import Derived.Test.YtbljhmcenjmjjaaLSketchParts
namespace Go.Proofs.Ytbljhmcenjmjjaa
open Go.RowKit Vm Sk
set_option linter.unusedVariables false

theorem of_num29 {f : Int} : ∃ o : Int, (f.tmod 100 + 100).tmod 100 = o ∧ 0 ≤ o ∧ o ≤ 99 ∧ 0 ≤ f.tmod 100 + 100 ∧ f.tmod 100 + 100 ≤ 200 ∧ -100 < f.tmod 100 ∧ f.tmod 100 < 100 := by
  have h1 := Int.lt_tmod_of_pos f (show (0 : Int) < 100 by omega)
  have h2 := Int.tmod_lt_of_pos f (show (0 : Int) < 100 by omega)
  have h3 : 0 ≤ f.tmod 100 + 100 := by omega
  have e := Int.tmod_eq_emod_of_nonneg (b := 100) h3
  exact ⟨_, rfl, by omega, by omega, by omega, by omega, by omega, by omega⟩
theorem part_num29 {p o : Int} (h0 : 0 ≤ o) (h99 : o ≤ 99) : ∃ q : Int, (p.tmod (1 + o + 1) + (1 + o) + 1).tmod (1 + o + 1) = q ∧ 0 ≤ q ∧ q ≤ 1 + o ∧ 0 ≤ p.tmod (1 + o + 1) + (1 + o) + 1 ∧ p.tmod (1 + o + 1) + (1 + o) + 1 ≤ 300 ∧ -102 < p.tmod (1 + o + 1) ∧ p.tmod (1 + o + 1) < 102 := by
  have h1 := Int.lt_tmod_of_pos p (show (0 : Int) < 1 + o + 1 by omega)
  have h2 := Int.tmod_lt_of_pos p (show (0 : Int) < 1 + o + 1 by omega)
  have h3 : 0 ≤ p.tmod (1 + o + 1) + (1 + o) + 1 := by omega
  have e := Int.tmod_eq_emod_of_nonneg (b := 1 + o + 1) h3
  have h4 := Int.emod_lt_of_pos (p.tmod (1 + o + 1) + (1 + o) + 1) (show (0 : Int) < 1 + o + 1 by omega)
  have h5 := Int.emod_nonneg (p.tmod (1 + o + 1) + (1 + o) + 1) (show 1 + o + 1 ≠ 0 by omega)
  exact ⟨_, rfl, by omega, by omega, by omega, by omega, by omega, by omega⟩
theorem countP_take29 (f : Int → Bool) (vs : List Int) (k : Nat) (h : k < vs.length) : (vs.take (k + 1)).countP f = (vs.take k).countP f + (if f vs[k] then 1 else 0) := by
  rw [List.take_succ_eq_append_getElem h, List.countP_append, List.countP_singleton]

set_option maxRecDepth 100000 in
set_option maxHeartbeats 4000000 in
theorem sketchTells_law (a : Option Addr) (len cap : Nat) (zs : List Int) (p f : Int) (w : World) (hr : IsRow .i64 w a len cap zs) (hcap : cap * 8 ≤ 140737488351232) (hp0 : (Lit.int .i64 p).wf = true) (hf0 : (Lit.int .i64 f).wf = true) :
    Calls Try.prog 9 #[.slice a len cap, .int .i64 p, .int .i64 f] w fun e w' => e = .returned (.bool true) ∧ Below w.heap.size w w' := by
  have hpb := bounds_i64 hp0
  have hfb := bounds_i64 hf0
  unfold I64 at hpb hfb
  obtain ⟨vs, hvl, hsv, hvi, hlen, hlc⟩ := row_some29 hr
  have HS := Lib.hid (fun w => some29_walk a len cap w hlen hlc)
  obtain ⟨M, hM⟩ : ∃ M, M = min len 200 := ⟨_, rfl⟩
  rw [← hM] at HS hvl
  have hM2 : M ≤ 200 := by omega
  clear hr hp0 hf0 hlen hlc hM hcap
  obtain ⟨o, ho1, ho2, ho3, ho4, ho5, ho6, ho7⟩ := of_num29 (f := f)
  obtain ⟨q, hq1, hq2, hq3, hq4, hq5, hq6, hq7⟩ := part_num29 (p := p) ho2 ho3
  obtain ⟨hm0, hs0⟩ := addB_may may_nil vs.length vs rfl hvi (by simp [sumN]; omega)
  have hn0 := addB_len vs []
  rw [hvl] at hs0 hn0
  simp only [List.length_nil, Nat.zero_add] at hn0
  rw [sumN_nil, Int.zero_add] at hs0
  have H0 := Lib.hid (fun w h => add_nil vs M a cap w hvl hM2 hvi h)
  have hG : GoodQ (addB [] vs) q (1 + o) := ⟨hm0, by omega, by omega, hq2, hq3⟩
  by_cases hz : M = 0
  · have hv0 : vs = [] := List.eq_nil_of_length_eq_zero (by omega)
    have HQ := Lib.hid (fun w a' c' h => bk_quant_walk (addB [] vs) (addB [] vs).length a' c' w.heap.size q (1 + o) 0 3 w rfl (by omega) (.inr (.inl ⟨hG, by rw [hv0]; rfl, rfl, rfl⟩)) h (Nat.le_refl _))
    subst hz
    clear hG hm0 hs0 hn0 hvi hvl hv0
    generalize (addB [] vs) = D0 at *
    go_enter Try.func9, Try.ntmps9
    go_wp2_with fail
    refine (HS.out _).mono ?_
    rintro e w1 ⟨rfl, hw1⟩
    subst w1
    go_wp2_with fail
    refine (H0.out _ hsv).mono ?_
    rintro e w1 ⟨a1, c1, rfl, s1, g1⟩
    go_wp2_with fail
    refine (HQ.out _ _ _ s1).mono ?_
    rintro e w2 ⟨rfl, g2⟩
    have g2 := gtrans g1 g2
    go_wp2_with fail
    refine (awake29_walk _).mono ?_
    rintro x wz ⟨rfl, gz⟩
    go_wp2_with fail
    go_ret
    exact ⟨rfl, gdrew g2 gz⟩
  have hne : addB [] vs ≠ [] := fun h => by rw [h, sumN_nil] at hs0; omega
  obtain ⟨_, _, _, _, _, _, r1, r2⟩ := rank_facts hG hne
  rw [hs0] at r1 r2
  have HQ := Lib.hid (fun w a' c' h => bk_quant_walk (addB [] vs) (addB [] vs).length a' c' w.heap.size q (1 + o) (quI (addB [] vs) (rankA (sumN (addB [] vs)) q (1 + o))) 0 w rfl (by omega) (.inr (.inr ⟨hG, hne, rfl, rfl⟩)) h (Nat.le_refl _))
  rw [hs0] at HQ
  have HR := Lib.hid (fun w => rank_walk (M : Int) q (1 + o) (rankA (M : Int) q (1 + o)) w (by omega) (by omega) hq2 hq3 (by omega) (by omega) rfl)
  generalize rankA (M : Int) q (1 + o) = R at *
  obtain ⟨b, hb, hb1, hl1, hh1, hc1, hc2⟩ := share_tells hvi (by omega) r1 (by rw [hvl]; exact r2)
  rw [hb] at HQ
  have HE := Lib.hid (fun w => ends_walk b w (by unfold I64; omega))
  rw [if_pos hb1] at HE
  clear hG hm0 hs0 hn0 hne hb hb1
  generalize (addB [] vs) = D0 at *
  generalize lowI b = F at *
  generalize highI b = T at *
  have HC := Lib.hid (show R ≤ ((vs.countP (fun v => decide (v ≤ T)) : Nat) : Int) ∧ ((vs.countP (fun v => decide (v < F)) : Nat) : Int) < R from ⟨hc1, hc2⟩)
  have HV := Lib.hid hvl
  have HI := Lib.hid hvi
  unfold I64 at hl1 hh1
  clear hc1 hc2 hvl hvi
  go_enter Try.func9, Try.ntmps9
  go_wp2_with fail
  refine (HS.out _).mono ?_
  rintro e w1 ⟨rfl, hw1⟩
  subst w1
  go_wp2_with fail
  refine (H0.out _ hsv).mono ?_
  rintro e w1 ⟨a1, c1, rfl, s1, g1⟩
  have v1 := (hsv.below g1 (Nat.le_refl _)).grow g1.size
  go_wp2_with fail
  refine (HQ.out _ _ _ s1).mono ?_
  rintro e w2 ⟨rfl, g2⟩
  have v2 := (v1.below g2 (Nat.le_refl _)).grow g2.size
  have g2 := gtrans g1 g2
  clear v1 g1 s1 hsv
  go_wp2_with fail
  refine (HE.out _).mono ?_
  rintro e w3 ⟨rfl, g3⟩
  have v3 := (v2.below (g3.below _) (Nat.le_refl _)).grow (g3.below 0).size
  have g3 := gdrew g2 g3
  clear v2 g2
  go_wp2_with fail
  refine (HR.out _).mono ?_
  rintro e w4 ⟨rfl, hw4⟩
  subst hw4
  go_wp2_with fail
  go_loop [15, 16, 17] (fun L B I => ∃ k : Nat, k ≤ M ∧ I = .int .i64 k ∧ L = .int .i64 (((vs.take k).countP (fun v => decide (v ≤ T)) : Nat) : Int) ∧ B = .int .i64 (((vs.take k).countP (fun v => decide (v < F)) : Nat) : Int)) (fun _ _ I => M - (intOf I).toNat)
  case atStart => exact ⟨0, by omega, rfl, rfl, rfl⟩
  case round =>
    obtain ⟨k, hk, rfl, rfl, rfl⟩ := hrel
    have hcl1 : (vs.take k).countP (fun v => decide (v ≤ T)) ≤ k := Nat.le_trans List.countP_le_length (List.length_take_le _ _)
    have hcl2 : (vs.take k).countP (fun v => decide (v < F)) ≤ k := Nat.le_trans List.countP_le_length (List.length_take_le _ _)
    by_cases hlt : k < M
    · have hkx : k < vs.length := by rw [HV.out]; exact hlt
      obtain ⟨b1, o1, rfl, hb1, k1⟩ := v3.at (j := k) (by rw [i64s_length]; exact hkx)
      rw [i64s_at _ _ hkx] at k1
      have hi := HI.out vs[k] (List.getElem_mem hkx)
      have E1 := countP_take29 (fun v => decide (v ≤ T)) vs k hkx
      have E2 := countP_take29 (fun v => decide (v < F)) vs k hkx
      generalize vs[k] = x at *
      generalize (vs.take k).countP (fun v => decide (v ≤ T)) = L0 at *
      generalize (vs.take k).countP (fun v => decide (v < F)) = B0 at *
      by_cases h1 : x ≤ T
      all_goals by_cases h2 : x < F
      all_goals
        simp only [h1, h2, decide_true, decide_false, if_true, if_false, Bool.false_eq_true, Nat.add_zero] at E1 E2
        have E1 := Lib.hid E1
        have E2 := Lib.hid E2
        have hx1 := hi.1
        have hx2 := hi.2
        clear hi
        go_wp2_with fail
        go_round
        case rel => exact ⟨k + 1, by omega, by go_num, by rw [E1.out] <;> (try rfl) <;> go_num, by rw [E2.out] <;> (try rfl) <;> go_num⟩
        case measure => simp [intOf]; omega
    · have hall : vs.take k = vs := List.take_of_length_le (by rw [HV.out]; omega)
      rw [hall] at hcl1 hcl2 ⊢
      obtain ⟨hc1, hc2⟩ := HC.out
      clear hall
      go_wp2_with fail
      refine (awake29_walk _).mono ?_
      rintro x wz ⟨rfl, gz⟩
      go_wp2_with fail
      go_ret
      exact ⟨rfl, gdrew g3 gz⟩
end Go.Proofs.Ytbljhmcenjmjjaa
