/- The walk of the statement TxnEach of layer 12. -/
import Derived.Test.YtfjnmjibifefgaaTxEach
import Derived.Test.YtfjnmjibifefgaaNtOpen
namespace Go.Proofs.Ytfjnmjibifefgaa
open Go.RowKit Vm
set_option linter.unusedVariables false

def sumP (l : List Int) : Int := (l.map (fun y => (2 : Int) ^ y.toNat)).sum
theorem sumP_snoc (l : List Int) (y : Int) : sumP (l ++ [y]) = sumP l + (2 : Int) ^ y.toNat := by simp [sumP]
theorem sum_each (x : Int) (k : Nat) (hk : k ≤ 13) : sumP (eachF x k) = x % (2 : Int) ^ k := by
  induction k with
  | zero => simp [sumP, eachF]
  | succ k ih =>
    have ih := ih (by omega)
    have : k = 0 ∨ k = 1 ∨ k = 2 ∨ k = 3 ∨ k = 4 ∨ k = 5 ∨ k = 6 ∨ k = 7 ∨ k = 8 ∨ k = 9 ∨ k = 10 ∨ k = 11 ∨ k = 12 := by omega
    unfold eachF
    split
    · next hb =>
      rw [sumP_snoc, ih, Int.toNat_natCast]
      rcases this with rfl | rfl | rfl | rfl | rfl | rfl | rfl | rfl | rfl | rfl | rfl | rfl | rfl <;> simp only [Int.reducePow, Nat.reduceAdd] at hb ⊢ <;> omega
    · next hb =>
      rw [ih]
      rcases this with rfl | rfl | rfl | rfl | rfl | rfl | rfl | rfl | rfl | rfl | rfl | rfl | rfl <;> simp only [Int.reducePow, Nat.reduceAdd] at hb ⊢ <;> omega
theorem each_at (x : Int) (k : Nat) : ∀ (i : Nat) (hi : i < (eachF x k).length), ∃ p : Nat, (eachF x k)[i] = (p : Int) ∧ p < k := by
  induction k with
  | zero => intro i hi; simp [eachF] at hi
  | succ k ih =>
    unfold eachF
    split
    · intro i hi
      by_cases h1 : i < (eachF x k).length
      · obtain ⟨p, h2, h3⟩ := ih i h1
        exact ⟨p, by rw [List.getElem_append_left h1]; exact h2, by omega⟩
      · have : i = (eachF x k).length := by simp at hi; omega
        subst this
        exact ⟨k, by simp, by omega⟩
    · intro i hi
      obtain ⟨p, h2, h3⟩ := ih i hi
      exact ⟨p, h2, by omega⟩
theorem each_asc (x : Int) (k : Nat) : ∀ (i : Nat) (hi : i + 1 < (eachF x k).length), (eachF x k)[i] < (eachF x k)[i + 1] := by
  induction k with
  | zero => intro i hi; simp [eachF] at hi
  | succ k ih =>
    unfold eachF
    split
    · intro i hi
      by_cases h1 : i + 1 < (eachF x k).length
      · rw [List.getElem_append_left (by omega), List.getElem_append_left h1]
        exact ih i h1
      · have h2 : i + 1 = (eachF x k).length := by simp at hi; omega
        obtain ⟨p, h3, h4⟩ := each_at x k i (by omega)
        rw [List.getElem_append_left (by omega), List.getElem_append_right (by omega), h3]
        simp
        omega
    · intro i hi
      exact ih i hi

set_option maxRecDepth 100000 in
set_option maxHeartbeats 4000000 in
theorem txnEach_law (x : Int) (w : World) (hxw : (Lit.int .i64 x).wf = true) :
    Calls Try.prog 13 #[.int .i64 x] w fun e w' => e = .returned (.bool true) ∧ Below w.heap.size w w' := by
  have hx := wf_i64 hxw
  have HW := Lib.hid (each_walk x w hx)
  unfold EaPost at HW
  have HS := Lib.hid (sum_each x 13 (by omega))
  have HAT := Lib.hid (show ∀ i, i < (eachF x 13).length → ∃ p : Nat, (eachF x 13).getD i 0 = (p : Int) ∧ p < 13 from fun i hi => by
    obtain ⟨p, h1, h2⟩ := each_at x 13 i hi
    exact ⟨p, by rw [← h1]; simp [List.getD, hi], h2⟩)
  have HASC := Lib.hid (show ∀ i, i + 1 < (eachF x 13).length → (eachF x 13).getD i 0 < (eachF x 13).getD (i + 1) 0 from fun i hi => by
    have h1 := each_asc x 13 i hi
    simp only [List.getD, List.getElem?_eq_getElem hi, List.getElem?_eq_getElem (show i < (eachF x 13).length by omega)]
    exact h1)
  have hDl := eachF_len x 13
  have hA := and_13 x
  have HA := Lib.hid (show bits .and .i64 x 8191 = sumP (eachF x 13) from by rw [HS.out, hA]; rfl)
  generalize eachF x 13 = D at *
  clear HS hA hxw hx
  go_enter Try.func13, Try.ntmps13
  go_wp2_with fail
  refine HW.out.mono ?_
  rintro e w1 ⟨a1, c1, rfl, s1, g1⟩
  obtain ⟨N, hN⟩ : ∃ N, D.length = N := ⟨_, rfl⟩
  rw [hN] at hDl ⊢
  have HN := Lib.hid hN
  clear hN
  go_wp2_with fail
  go_loopw [4, 5] (fun S I wz => ∃ (q : Nat) (V : Int), q ≤ N ∧ I = .int .i64 q ∧ S = .int .i64 V ∧ Hid (V = sumP (D.take q)) ∧ 0 ≤ V ∧ V ≤ 4096 * q ∧ Below w1.heap.size w1 wz) (fun _ I _ => N - (intOf I).toNat)
  case atStart => exact ⟨0, 0, by omega, rfl, rfl, Lib.hid rfl, by omega, by omega, Below.refl _ _⟩
  case round =>
    obtain ⟨q, V, hq, rfl, rfl, HV, hv0, hv1, hbz⟩ := hrel
    by_cases hlt : q < N
    · have hql : q < D.length := by rw [HN.out]; exact hlt
      obtain ⟨p, hp, hp13⟩ := HAT.out q hql
      obtain ⟨b1, o1, rfl, hb1, h1⟩ := (s1.below hbz (Nat.le_refl _)).at (j := q) (by rw [i64s_length]; exact hql)
      rw [i64s_at _ _ hql, show D[q] = D.getD q 0 by simp [List.getD, hql], hp] at h1
      have HT := Lib.hid (show V + (2 : Int) ^ p = sumP (D.take (q + 1)) by
        rw [HV.out, take_get D 0 q hql, sumP_snoc]
        rw [hp]; simp)
      have hp2 : 1 ≤ (2 : Int) ^ p ∧ (2 : Int) ^ p ≤ 4096 := by
        have h1 : 2 ^ p ≤ 2 ^ 12 := Nat.pow_le_pow_right (by omega) (by omega)
        have h2 : 1 ≤ 2 ^ p := Nat.one_le_two_pow
        have hc : (2 : Int) ^ p = ((2 ^ p : Nat) : Int) := by simp
        rw [hc]
        generalize 2 ^ p = K at *
        omega
      have hprev : q = 0 ∨ ∃ j : Nat, q = j + 1 ∧ IntKind.i64.wrap ((q : Int) - 1) = (j : Int) ∧ ∃ r : Nat, wr.cell? ⟨b1, o1 + j, none⟩ = some (.int .i64 r) ∧ r < p := by
        cases q with
        | zero => exact .inl rfl
        | succ j =>
          obtain ⟨r, hr, _⟩ := HAT.out j (by omega)
          have ha := HASC.out j hql
          obtain ⟨b2, o2, e2, _, h2⟩ := (s1.below hbz (Nat.le_refl _)).at (j := j) (by rw [i64s_length]; omega)
          injection e2 with e2
          injection e2 with e2 e3
          subst e2 e3
          rw [i64s_at _ _ (show j < D.length by omega), show D[j] = D.getD j 0 by simp [List.getD, show j < D.length by omega], hr] at h2
          exact .inr ⟨j, rfl, by rw [IntWalk.i64_in _ (by omega)]; omega, r, h2, by rw [hp, hr] at ha; omega⟩
      clear hp
      have hd1 : decide ((p : Int) < 0) = false := decide_eq_false (by omega)
      have hd2 : decide (13 ≤ (p : Int)) = false := decide_eq_false (by omega)
      rcases hprev with rfl | ⟨j, hqj, hwj, r, h2, hrp⟩
      · simp only [Nat.add_zero] at h1
        go_wp2_with fail
        go_quiet (fail)
        go_wp2_with fail
        go_roundw
        case rel => exact ⟨0 + 1, V + (2 : Int) ^ p, by omega, by go_num, rfl, HT, by omega, by omega, hbz.trans (below_drewN _ _ _)⟩
        case measure => simp [intOf]; omega
      · have hjN : j < N := by omega
        have hjN2 : (j : Int) < (N : Int) := by omega
        have hqN2 : (q : Int) < (N : Int) := by omega
        have hd3 : decide (0 < q) = true := decide_eq_true (by omega)
        have hd4 : decide ((p : Int) ≤ (r : Int)) = false := decide_eq_false (by omega)
        clear hqj
        go_wp2_with fail
        go_quiet (fail)
        go_wp2_with fail
        go_roundw
        case rel => exact ⟨q + 1, V + (2 : Int) ^ p, by omega, by go_num, rfl, HT, by omega, by omega, hbz.trans (below_drewN _ _ _)⟩
        case measure => simp [intOf]; omega
    · obtain rfl : q = N := by omega
      have HV2 := Lib.hid (show bits .and .i64 x 8191 = V by rw [HV.out, List.take_of_length_le (by rw [HN.out]; omega)]; exact HA.out)
      go_wp2_with (rw [HV2.out])
      refine (awake12_walk _).mono ?_
      rintro e w8 ⟨rfl, g8⟩
      go_wp2_with fail
      go_ret
      exact ⟨rfl, gtrans (gtrans g1 hbz) g8⟩
end Go.Proofs.Ytfjnmjibifefgaa
