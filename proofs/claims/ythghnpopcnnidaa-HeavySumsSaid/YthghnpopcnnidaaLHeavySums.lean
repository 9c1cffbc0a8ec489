/- The walk of headgatelaw30.HeavySums. -/
import Derived.Test.YthghnpopcnnidaaHvTell
namespace Go.Proofs.Ythghnpopcnnidaa
open Go.RowKit Vm
set_option linter.unusedVariables false
set_option linter.unusedSimpArgs false

def sumT (L : List Ta) (i : Nat) : Int := ((L.take i).map Ta.n).sum
theorem sumT_next {L : List Ta} {i : Nat} (h : i < L.length) : sumT L (i + 1) = sumT L i + (L.getD i ta0).n := by
  unfold sumT
  rw [take_get L ta0 i h, List.map_append, List.sum_append]; simp
theorem sumT_all (L : List Ta) : sumT L L.length = (L.map Ta.n).sum := by unfold sumT; rw [List.take_of_length_le (Nat.le_refl _)]
theorem sumT_mono {L : List Ta} (h : ∀ t ∈ L, 0 ≤ t.n) : ∀ i j, i + j ≤ L.length → sumT L i ≤ sumT L (i + j)
  | i, 0, _ => Int.le_refl _
  | i, j + 1, hj => by
    have h1 := sumT_mono h i j (by omega)
    have h2 := sumT_next (L := L) (i := i + j) (by omega)
    have h3 := h _ (getD_memT (show i + j < L.length by omega))
    have e : i + (j + 1) = i + j + 1 := by omega
    rw [e, h2]; omega
theorem sum_perm {a b : List Ta} (h : a.Perm b) : (a.map Ta.n).sum = (b.map Ta.n).sum := by
  induction h with
  | nil => rfl
  | cons x _ ih => rw [List.map_cons, List.map_cons, List.sum_cons, List.sum_cons, ih]
  | swap x y l => simp only [List.map_cons, List.sum_cons]; omega
  | trans _ _ h1 h2 => rw [h1, h2]
/-- How many kinds of keys came. -/
def kinds (xs : List Int) : Nat → Nat
  | 0 => 0
  | i + 1 => kinds xs i + if cntX (xs.take i) (xs.getD i 0) = 0 then 1 else 0
theorem kinds_le (xs : List Int) : ∀ i, kinds xs i ≤ i
  | 0 => Nat.le_refl _
  | i + 1 => by have := kinds_le xs i; unfold kinds; split <;> omega
theorem kinds_len {m : Nat} (h0 : 1 ≤ m) (h1 : m ≤ 64) (xs : List Int) : ∀ i, i ≤ xs.length → (addTo (newH m) xs i).L.length = min (kinds xs i) m
  | 0, _ => by simp [addTo, newH, kinds]
  | i + 1, hi => by
    have ih := kinds_len h0 h1 xs i (by omega)
    have hok := addTo_ok (l := xs) (newH_ok h0 h1) i
    have hs := str_add (l := xs) (newH_ok h0 h1) (str_new m) i (by omega)
    rw [List.nil_append] at hs
    have hm : (addTo (newH m) xs i).m = m := addTo_m _ _ _
    have hln := hok.len
    show (tally (addTo (newH m) xs i).m (addTo (newH m) xs i).L (xs.getD i 0)).length = _
    unfold kinds
    generalize addTo (newH m) xs i = H at *
    generalize xs.getD i 0 = x at *
    rw [hm] at hln ⊢
    unfold tally
    by_cases hh : hasK H.L x = true
    · rw [if_pos hh, List.length_set, ih]
      obtain ⟨h2, h3⟩ := idxK_lt hh
      have hb := (hs.bd _ h2).1
      have ht := hok.t _ (getD_memT h2)
      rw [h3] at hb
      have : ¬ cntX (xs.take i) x = 0 := by omega
      rw [if_neg this]; rfl
    · rw [if_neg hh]
      obtain ⟨n1, n2⟩ := hs.nx x (by simpa using hh)
      by_cases hl : H.L.length < m
      · rw [if_pos hl, List.length_append, List.length_singleton, if_pos (n2 (by rw [hm]; exact hl)), ih]
        omega
      · rw [if_neg hl, List.length_set, ih]
        split <;> omega
theorem top_nodup {L : List Ta} (h : (L.map Ta.k).Nodup) : ((topL L).map Ta.k).Nodup := (((topL_perm L).map Ta.k).nodup_iff).2 h
set_option maxRecDepth 100000 in
set_option maxHeartbeats 8000000 in
theorem heavySums_law (most : Int) (a : Option Addr) (len cap : Nat) (zs : List Int) (w : World) (hmo : (Lit.int .i64 most).wf = true) (hr : IsRow .i64 w a len cap zs) (hcap : cap * 8 ≤ 140737488351232) :
    Calls Try.prog 5 #[.int .i64 most, .slice a len cap] w fun e w' => e = .returned (.bool true) ∧ Below w.heap.size w w' := by
  obtain ⟨xs, hxl, hsx, hbx, hl63, hlc⟩ := row400 hr
  have KSo := Lib.hid (some30_walk a len cap w hl63 hlc)
  have K7 := Lib.hid (fun w => awake30_walk w)
  obtain ⟨N, hN⟩ : ∃ N, min len 400 = N := ⟨_, rfl⟩
  rw [hN] at hxl KSo
  have hN4 : N ≤ 400 := by omega
  have HN := Lib.hid hxl
  have HS := Lib.hid hsx
  have KMa := Lib.hid (made_walk most xs N a cap w hxl hN4 hsx hbx)
  obtain ⟨hm1, hm2, hm3⟩ := mosN_le most
  have HSt := Lib.hid (str_made (mosN most) hm1 hm2 xs)
  have HOK := Lib.hid ((addTo_ok (l := xs) (newH_ok hm1 hm2) xs.length).more (show 0 + xs.length ≤ 400 by omega))
  have HMm := Lib.hid (addTo_m (newH (mosN most)) xs xs.length)
  have HSs := Lib.hid (addTo_s (newH (mosN most)) xs xs.length)
  unfold MadeQ at KMa
  have HMo := Lib.hid (show mosN most = mosN most from rfl)
  obtain ⟨mm, hmm⟩ : ∃ mm, mosN most = mm := ⟨_, rfl⟩
  rw [hmm] at KMa hm1 hm2 hm3 HSt HOK HMm HSs
  have HMM := Lib.hid hmm
  obtain ⟨H, hH⟩ : ∃ H, addTo (newH mm) xs xs.length = H := ⟨_, rfl⟩
  have HHd := Lib.hid hH
  rw [hH] at KMa HSt HOK HMm HSs
  have hHm : H.m = mm := HMm.out
  have HHs := Lib.hid (show H.s = N from by rw [HSs.out, HN.out]; show 0 + N = N; omega)
  have hLm : H.L.length ≤ 64 := by have := HOK.out.len; omega
  obtain ⟨D, hD⟩ : ∃ D, H.L.length = D := ⟨_, rfl⟩
  have HD := Lib.hid hD
  rw [hD] at hLm
  have HTl := Lib.hid (show (topL H.L).length = D by rw [topL_len, hD])
  have HHm := Lib.hid hHm
  have KT := Lib.hid (fun g S w h => top64_ha 400 H g S w HOK.out h)
  rw [hD] at KT
  unfold RowQ at KT
  have hNc : N ≤ cap := by omega
  clear hmo hr hcap hxl hsx hbx hl63 hlc hmm hH hHm hD HMm HSs
  go_enter Try.func5, Try.ntmps5
  go_wp2_with fail
  refine KSo.out.mono ?_
  rintro e w' ⟨rfl, hww⟩
  subst hww
  clear KSo
  go_wp2_with fail
  refine KMa.out.mono ?_
  rintro e w0 ⟨g, S, rfl, A0, hZ, b0⟩
  clear KMa
  have KT1 := Lib.hid (KT.out g S w0 A0)
  have HNd := Lib.hid (top_nodup HOK.out.nd)
  have HTn := Lib.hid (show ∀ t ∈ topL H.L, 0 ≤ t.n from fun t ht => by have := HOK.out.t t ((topL_perm H.L).mem_iff.1 ht); omega)
  have HSum := Lib.hid (show sumT (topL H.L) D = (N : Int) from by rw [← HTl.out, sumT_all, sum_perm (topL_perm H.L), HSt.out.sm, HN.out])
  have HKi := Lib.hid (show D = min (kinds xs N) mm from by rw [← HD.out, ← HHd.out, kinds_len hm1 hm2 xs xs.length (Nat.le_refl _), HN.out])
  obtain ⟨hq, hq2, hq3, hq4⟩ := pick16 most
  have HQ5 := Lib.hid (And.intro hq (And.intro hq2 (And.intro hq3 hq4)))
  clear KT hq hq2 hq3 hq4
  go_wp2_with fail
  refine KT1.out.mono ?_
  rintro e w3 ⟨a3, c3, rfl, p3, b3⟩
  have A3 := Lib.hid (A0.keep b3)
  have P3 := Lib.hid p3
  have B3 := Lib.hid (b0.trans (b3.mono b0.size))
  clear KT1 A0 p3 b3
  have hz3 := B3.out.size
  go_wp2_with fail
  go_loopw [7, 8] (fun Sm I wr => ∃ (i : Nat) (s : Int), i ≤ D ∧ (0 ≤ s ∧ s ≤ N) ∧ I = .int .i64 i ∧ Sm = .int .i64 s ∧ Hid (s = sumT (topL H.L) i) ∧ Below w3.heap.size w3 wr) (fun _ I _ => D - (intOf I).toNat)
  case atStart => exact ⟨0, 0, by omega, by omega, rfl, rfl, Lib.hid rfl, Below.refl _ _⟩
  case round =>
    obtain ⟨i, s, hi, ⟨hs0, hs1⟩, rfl, rfl, HSs, hb⟩ := hrel
    by_cases hlt : i < D
    · have hlt2 : (i : Int) < (D : Int) := by omega
      have hi0 : 0 ≤ (i : Int) := by omega
      have hiT : i < (topL H.L).length := by rw [HTl.out]; exact hlt
      obtain ⟨bt, ot, rfl, hbt, hct⟩ := (P3.out.keep hb).1.ta (by omega)
      obtain ⟨r0, r1, r2⟩ := hct i hiT
      have hnx := sumT_next hiT
      rw [← HSs.out] at hnx
      have hle := sumT_mono HTn.out (i + 1) (D - (i + 1)) (by rw [HTl.out]; omega)
      rw [show i + 1 + (D - (i + 1)) = D by omega, HSum.out, hnx] at hle
      have htn := HTn.out _ (getD_memT hiT)
      obtain ⟨t, ht⟩ : ∃ t, (topL H.L).getD i ta0 = t := ⟨_, rfl⟩
      rw [ht] at r0 r1 r2 hnx hle htn
      have HTi := Lib.hid ht
      have HNx := Lib.hid hnx.symm
      have hw : IntKind.i64.wrap (s + t.n) = s + t.n := IntWalk.i64_in _ (by omega)
      have hs2 : 0 ≤ s + t.n ∧ s + t.n ≤ N := by omega
      clear hct ht hnx
      obtain ⟨tk, tn, to⟩ := t
      simp only at r0 r1 r2 hw hs2 HNx hle htn
      go_upto_region 11 with fail
      clear hw r1 r2 hle htn r0
      go_wp2_with fail
      go_loopw [9] (fun I wr => ∃ j : Nat, j ≤ i ∧ I = .int .i64 j ∧ Below w3.heap.size w3 wr) (fun I _ => i - (intOf I).toNat)
      case atStart => exact ⟨0, by omega, rfl, hb⟩
      case round =>
        obtain ⟨j, hj, rfl, hbj⟩ := hrel
        by_cases hlj : j < i
        · have hlj2 : (j : Int) < (i : Int) := by omega
          have hj0 : 0 ≤ (j : Int) := by omega
          have hjD : (j : Int) < (D : Int) := by omega
          obtain ⟨bt', ot', e', hbt', hct⟩ := (P3.out.keep hbj).1.ta (by omega)
          injection e' with e'
          injection e' with e1 e2 _
          subst e1 e2
          obtain ⟨r0, _, _⟩ := hct i hiT
          obtain ⟨s0, _, _⟩ := hct j (by omega)
          have hne := keys_ne HNd.out (show j < (topL H.L).length by omega) hiT (by omega)
          rw [HTi.out] at r0 hne
          simp only at r0 hne
          obtain ⟨u, hu⟩ : ∃ u, ((topL H.L).getD j ta0).k = u := ⟨_, rfl⟩
          rw [hu] at s0 hne
          have g1 : (u == tk) = false := beq_eq_false_iff_ne.2 hne
          have hbd := Lib.hid (fun nq => hbj.trans (below_drewN w3.heap.size wr nq))
          clear hct hne hu
          go_wp2_with fail
          go_quiet (fail)
          go_wp2_with fail
          go_roundw
          case rel => exact ⟨j + 1, by omega, by go_num, hbd.out _⟩
          case measure => simp [intOf]; omega
        · obtain rfl : j = i := by omega
          go_wp2_with fail
          go_roundw
          case rel => exact ⟨j + 1, s + tn, by omega, hs2, by go_num, rfl, HNx, hbj⟩
          case measure => simp [intOf]; omega
    · obtain rfl : i = D := by omega
      have hsN : s = (N : Int) := by rw [HSs.out, HSum.out]
      subst hsN
      go_wp2_with fail
      go_loopw [10, 11] (fun Kn I wr => ∃ (j q : Nat), j ≤ N ∧ q ≤ j ∧ I = .int .i64 j ∧ Kn = .int .i64 q ∧ Hid (q = kinds xs j) ∧ Below w3.heap.size w3 wr) (fun _ I _ => N - (intOf I).toNat)
      case atStart => exact ⟨0, 0, by omega, by omega, rfl, rfl, Lib.hid rfl, hb⟩
      case round =>
        obtain ⟨j, q, hj, hqj, rfl, rfl, HQk, hbj⟩ := hrel
        by_cases hlj : j < N
        · have hlj2 : (j : Int) < (N : Int) := by omega
          have hj0 : 0 ≤ (j : Int) := by omega
          have hjc : (j : Int) ≤ (cap : Int) := by omega
          have hjc2 : j ≤ cap := by omega
          have Bj := B3.out.trans (hbj.mono hz3)
          have hSj := HS.out.below Bj (Nat.le_refl _)
          obtain ⟨bx, ox, rfl, hbx, hcx⟩ := hSj.intsH (by rw [HN.out]; omega)
          have r0 := hcx j (by rw [HN.out]; exact hlj)
          have hSt : Sl wr w.heap.size (some ⟨bx, ox, none⟩) (i64s (xs.take j)) := by
            rcases hSj with h | ⟨b, off, e, hlt3, hc⟩
            · have : xs = [] := by have := congrArg List.length h; rw [i64t_len, List.length_nil] at this; exact List.eq_nil_of_length_eq_zero this
              exact .inl (by rw [this]; simp [i64s])
            · refine .inr ⟨b, off, e, hlt3, fun p u hu => hc p u ?_⟩
              unfold i64s at hu ⊢
              rw [List.map_take, List.getElem?_take] at hu
              split at hu
              · exact hu
              · cases hu
          have KX := Lib.hid (fun x => times_walk (xs.take j) j x (some ⟨bx, ox, none⟩) cap w.heap.size wr (by rw [List.length_take, HN.out]; omega) (by omega) hSt Bj.size)
          have HKs := Lib.hid (show kinds xs (j + 1) = q + if cntX (xs.take j) (xs.getD j 0) = 0 then 1 else 0 from by rw [HQk.out]; rfl)
          obtain ⟨x, hx⟩ : ∃ x, xs.getD j 0 = x := ⟨_, rfl⟩
          rw [hx] at r0 HKs
          have KXd := Lib.hid (fun nq => times_walk (xs.take j) j x (some ⟨bx, ox, none⟩) cap w.heap.size (wr.drewN nq) (by rw [List.length_take, HN.out]; omega) (by omega) (hSt.below (below_drewN _ wr nq) (Nat.le_refl _)) Bj.size)
          obtain ⟨v, hv⟩ : ∃ v, cntX (xs.take j) x = v := ⟨_, rfl⟩
          rw [hv] at HKs KXd
          have hbd := Lib.hid (fun nq => hbj.trans (below_drewN w3.heap.size wr nq))
          have hbz : bx < wr.heap.size := by have := Bj.size; omega
          have HwQ := Lib.hid (show IntKind.i64.wrap ((q : Int) + 1) = ((q + 1 : Nat) : Int) by rw [IntWalk.i64_in _ (by omega)]; omega)
          clear KX hcx hx hv hSt hSj Bj
          by_cases hv0 : v = 0
          · subst hv0
            rw [if_pos rfl] at HKs
            go_wp2_with fail
            go_quiet ((go_at_call 22; exact Calls.quiet_of_same (KXd.out _)))
            clear r0
            go_upto_region 21 with fail
            have hwq := HwQ.out
            go_upto_region 19 with fail
            clear hwq
            go_wp2_with fail
            go_roundw
            case rel => exact ⟨j + 1, q + 1, by omega, by omega, by go_num, by go_num, Lib.hid HKs.out.symm, hbd.out _⟩
            case measure => simp [intOf]; omega
          · rw [if_neg hv0] at HKs
            have g1 : ((v : Int) == 0) = false := beq_eq_false_iff_ne.2 (by omega)
            go_wp2_with fail
            go_quiet ((go_at_call 22; exact Calls.quiet_of_same (KXd.out _)))
            clear r0 g1
            go_wp2_with fail
            go_roundw
            case rel => exact ⟨j + 1, q, by omega, by omega, by go_num, by go_num, Lib.hid HKs.out.symm, hbd.out _⟩
            case measure => simp [intOf]; omega
        · obtain rfl : j = N := by omega
          have hKi := HKi.out
          rw [← HQk.out] at hKi
          have KS := Lib.hid (seen_ha H g S wr (A3.out.keep hbj))
          rw [HHs.out] at KS
          have hmost : mm = pickN most 16 + 1 := by rw [← HMM.out]; rfl
          obtain ⟨p, hp⟩ : ∃ p, pickN most 16 = p := ⟨_, rfl⟩
          have hq5 := HQ5.out
          rw [hp] at hq5 hmost
          obtain ⟨hq, hq2, hq3, hq4⟩ := hq5
          obtain ⟨hw1, hw2⟩ : IntKind.i64.wrap (most.tmod 16 + 16) = most.tmod 16 + 16 ∧ IntKind.i64.wrap (1 + (p : Int)) = 1 + (p : Int) := ⟨IntWalk.i64_in _ (by omega), IntWalk.i64_in _ (by omega)⟩
          have hmin : min (q : Int) (1 + (p : Int)) = (i : Int) := by omega
          have g1 : ((j : Int) == (j : Int)) = true := by simp
          have g2 : ((i : Int) == (i : Int)) = true := by simp
          have hfb := hbj
          clear hp hmost hKi hq2 hq3 hq4
          go_wp2_with fail
          refine KS.out.mono ?_
          rintro e w8 ⟨rfl, hw8⟩
          subst hw8
          go_wp2_with fail
          refine (K7.out _).mono ?_
          rintro e w12 ⟨rfl, h12⟩
          have hfin := (B3.out.trans (hfb.mono hz3)).trans (h12.mono (Nat.le_trans hz3 hfb.size))
          clear hw1 hw2 hq hmin
          go_wp2_with fail
          go_ret
          exact ⟨rfl, hfin⟩
end Go.Proofs.Ythghnpopcnnidaa
