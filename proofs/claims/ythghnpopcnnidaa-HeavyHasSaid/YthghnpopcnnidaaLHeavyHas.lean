/- The walk of headgatelaw30.HeavyHas. -/
import Derived.Test.YthghnpopcnnidaaHvTell
namespace Go.Proofs.Ythghnpopcnnidaa
open Go.RowKit Vm
set_option linter.unusedVariables false
set_option linter.unusedSimpArgs false

theorem hasK_take {T : List Ta} {x : Int} {j : Nat} (h : j < T.length) : hasK (T.take (j + 1)) x = (hasK (T.take j) x || ((T.getD j ta0).k == x)) := by
  unfold hasK
  rw [take_get T ta0 j h, List.any_append]; simp
theorem hasK_perm {a b : List Ta} (h : a.Perm b) (x : Int) : hasK a x = hasK b x := by
  rw [Bool.eq_iff_iff, hasK_mem, hasK_mem]
  constructor
  · rintro ⟨t, h1, h2⟩; exact ⟨t, h.mem_iff.1 h1, h2⟩
  · rintro ⟨t, h1, h2⟩; exact ⟨t, h.mem_iff.2 h1, h2⟩
set_option maxRecDepth 100000 in
set_option maxHeartbeats 8000000 in
theorem heavyHas_law (most : Int) (a : Option Addr) (len cap : Nat) (zs : List Int) (w : World) (hmo : (Lit.int .i64 most).wf = true) (hr : IsRow .i64 w a len cap zs) (hcap : cap * 8 ≤ 140737488351232) :
    Calls Try.prog 6 #[.int .i64 most, .slice a len cap] w fun e w' => e = .returned (.bool true) ∧ Below w.heap.size w w' := by
  obtain ⟨xs, hxl, hsx, hbx, hl63, hlc⟩ := row400 hr
  have KSo := Lib.hid (some30_walk a len cap w hl63 hlc)
  have K7 := Lib.hid (fun w => awake30_walk w)
  obtain ⟨N, hN⟩ : ∃ N, min len 400 = N := ⟨_, rfl⟩
  rw [hN] at hxl KSo
  have hN4 : N ≤ 400 := by omega
  have HN := Lib.hid hxl
  have HS := Lib.hid hsx
  have KMa := Lib.hid (made_walk most xs N a cap w hxl hN4 hsx hbx)
  obtain ⟨hm1, hm2, hm3⟩ := mosN_le most
  have HSt := Lib.hid (str_made (mosN most) hm1 hm2 xs)
  have HOK := Lib.hid ((addTo_ok (l := xs) (newH_ok hm1 hm2) xs.length).more (show 0 + xs.length ≤ 400 by omega))
  have HMm := Lib.hid (addTo_m (newH (mosN most)) xs xs.length)
  have HSs := Lib.hid (addTo_s (newH (mosN most)) xs xs.length)
  unfold MadeQ at KMa
  have HMo := Lib.hid (show mosN most = mosN most from rfl)
  obtain ⟨mm, hmm⟩ : ∃ mm, mosN most = mm := ⟨_, rfl⟩
  rw [hmm] at KMa hm1 hm2 hm3 HSt HOK HMm HSs
  have HMM := Lib.hid hmm
  obtain ⟨H, hH⟩ : ∃ H, addTo (newH mm) xs xs.length = H := ⟨_, rfl⟩
  have HHd := Lib.hid hH
  rw [hH] at KMa HSt HOK HMm HSs
  have hHm : H.m = mm := HMm.out
  have HHs := Lib.hid (show H.s = N from by rw [HSs.out, HN.out]; show 0 + N = N; omega)
  have hLm : H.L.length ≤ 64 := by have := HOK.out.len; omega
  obtain ⟨D, hD⟩ : ∃ D, H.L.length = D := ⟨_, rfl⟩
  have HD := Lib.hid hD
  rw [hD] at hLm
  have HTl := Lib.hid (show (topL H.L).length = D by rw [topL_len, hD])
  have HHm := Lib.hid hHm
  have KT := Lib.hid (fun g S w h => top64_ha 400 H g S w HOK.out h)
  rw [hD] at KT
  unfold RowQ at KT
  have hNc : N ≤ cap := by omega
  clear hmo hr hcap hxl hsx hbx hl63 hlc hmm hH hHm hD HMm HSs
  go_enter Try.func6, Try.ntmps6
  go_wp2_with fail
  refine KSo.out.mono ?_
  rintro e w' ⟨rfl, hww⟩
  subst hww
  clear KSo
  go_wp2_with fail
  refine KMa.out.mono ?_
  rintro e w0 ⟨g, S, rfl, A0, hZ, b0⟩
  clear KMa
  have KT1 := Lib.hid (KT.out g S w0 A0)
  have HOv := Lib.hid (show ∀ t ∈ topL H.L, t.o ≤ ((N / mm : Nat) : Int) from fun t ht => by have := over_few HOK.out HSt.out ((topL_perm H.L).mem_iff.1 ht); rwa [HN.out, HHm.out] at this)
  have HFe := Lib.hid (show ∀ x, ¬ cntX xs x ≤ N / mm → hasK (topL H.L) x = true from fun x hx => by
    cases hc : hasK (topL H.L) x
    · rw [hasK_perm (topL_perm H.L)] at hc
      have := no_few HOK.out HSt.out hc
      rw [HN.out, HHm.out] at this
      exact absurd this hx
    · rfl)
  have hZN : N / mm ≤ N := Nat.div_le_self _ _
  have hdv : (N : Int).tdiv (mm : Int) = ((N / mm : Nat) : Int) := by rw [Int.tdiv_eq_ediv_of_nonneg (by omega), Int.natCast_ediv]
  obtain ⟨Z, hZd⟩ : ∃ Z, N / mm = Z := ⟨_, rfl⟩
  rw [hZd] at HOv HFe hZN hdv
  have hwZ : IntKind.i64.wrap (Z : Int) = (Z : Int) := IntWalk.i64_in _ (by omega)
  have ho0 : ¬ (mm : Int) = 0 := by omega
  have ho1 : ¬ (mm : Int) = -1 := by omega
  obtain ⟨hq, hq2, hq3, hq4⟩ := pick16 most
  have hmost : mm = pickN most 16 + 1 := by rw [← HMM.out]; rfl
  obtain ⟨p, hp⟩ : ∃ p, pickN most 16 = p := ⟨_, rfl⟩
  rw [hp] at hq hq2 hmost
  obtain ⟨hw1, hw2⟩ : IntKind.i64.wrap (most.tmod 16 + 16) = most.tmod 16 + 16 ∧ IntKind.i64.wrap (1 + (p : Int)) = (mm : Int) := ⟨IntWalk.i64_in _ (by omega), by rw [IntWalk.i64_in _ (by omega)]; omega⟩
  have HDv := Lib.hid (And.intro hdv (And.intro hwZ (And.intro ho0 ho1)))
  clear KT hq2 hq3 hq4 hZd hp hmost hdv hwZ ho0 ho1
  go_wp2_with fail
  refine KT1.out.mono ?_
  rintro e w3 ⟨a3, c3, rfl, p3, b3⟩
  have A3 := Lib.hid (A0.keep b3)
  have P3 := Lib.hid p3
  have B3 := Lib.hid (b0.trans (b3.mono b0.size))
  clear KT1 A0 p3 b3 hw1 hw2 hq
  have hz3 := B3.out.size
  go_wp2_with fail
  go_loopw [8] (fun I wr => ∃ i : Nat, i ≤ D ∧ I = .int .i64 i ∧ Below w3.heap.size w3 wr) (fun I _ => D - (intOf I).toNat)
  case atStart => exact ⟨0, by omega, rfl, Below.refl _ _⟩
  case round =>
    obtain ⟨i, hi, rfl, hb⟩ := hrel
    by_cases hlt : i < D
    · have hlt2 : (i : Int) < (D : Int) := by omega
      have hi0 : 0 ≤ (i : Int) := by omega
      have hiT : i < (topL H.L).length := by rw [HTl.out]; exact hlt
      obtain ⟨bt, ot, rfl, hbt, hct⟩ := (P3.out.keep hb).1.ta (by omega)
      obtain ⟨r0, r1, r2⟩ := hct i hiT
      have hov := HOv.out _ (getD_memT hiT)
      obtain ⟨t, ht⟩ : ∃ t, (topL H.L).getD i ta0 = t := ⟨_, rfl⟩
      rw [ht] at r0 r1 r2 hov
      obtain ⟨tk, tn, to⟩ := t
      simp only at r0 r1 r2 hov
      have g1 : ¬ (Z : Int) < to := by omega
      have hbd := Lib.hid (fun nq => hb.trans (below_drewN w3.heap.size wr nq))
      obtain ⟨hdv, hwZ, ho0, ho1⟩ := HDv.out
      clear hct ht r0 r1 hov
      go_wp2_with fail
      go_quiet (fail)
      clear r2 hdv hwZ ho0 ho1
      go_wp2_with fail
      go_roundw
      case rel => exact ⟨i + 1, by omega, by go_num, hbd.out _⟩
      case measure => simp [intOf]; omega
    · obtain rfl : i = D := by omega
      go_wp2_with fail
      go_loopw [9] (fun I wr => ∃ j : Nat, j ≤ N ∧ I = .int .i64 j ∧ Below w3.heap.size w3 wr) (fun I _ => N - (intOf I).toNat)
      case atStart => exact ⟨0, by omega, rfl, hb⟩
      case round =>
        obtain ⟨j, hj, rfl, hbj⟩ := hrel
        by_cases hlj : j < N
        · have hlj2 : (j : Int) < (N : Int) := by omega
          have hj0 : 0 ≤ (j : Int) := by omega
          have Bj := B3.out.trans (hbj.mono hz3)
          have hSj := HS.out.below Bj (Nat.le_refl _)
          obtain ⟨bx, ox, rfl, hbx, hcx⟩ := hSj.intsH (by rw [HN.out]; omega)
          have r0 := hcx j (by rw [HN.out]; exact hlj)
          obtain ⟨x, hx⟩ : ∃ x, xs.getD j 0 = x := ⟨_, rfl⟩
          rw [hx] at r0
          have KXd := Lib.hid (fun nq => times_walk xs N x (some ⟨bx, ox, none⟩) cap w.heap.size (wr.drewN nq) HN.out (by omega) (hSj.below (below_drewN _ wr nq) (Nat.le_refl _)) Bj.size)
          have HF := HFe.out x
          obtain ⟨v, hv⟩ : ∃ v, cntX xs x = v := ⟨_, rfl⟩
          rw [hv] at HF KXd
          have HSx := Lib.hid (HS.out)
          have Hx := Lib.hid hx
          have hbd := Lib.hid (fun nq => hbj.trans (below_drewN w3.heap.size wr nq))
          have hbz : bx < wr.heap.size := by have := Bj.size; omega
          obtain ⟨hdv, hwZ, ho0, ho1⟩ := HDv.out
          clear hcx hx hv hSj Bj
          by_cases hvZ : v ≤ Z
          · have g1 : (v : Int) ≤ (Z : Int) := by omega
            clear HF
            go_wp2_with fail
            go_quiet ((go_at_call 22; exact Calls.quiet_of_same (KXd.out _)))
            clear r0 hdv hwZ ho0 ho1
            go_wp2_with fail
            go_roundw
            case rel => exact ⟨j + 1, by omega, by go_num, hbd.out _⟩
            case measure => simp [intOf]; omega
          · have g1 : ¬ (v : Int) ≤ (Z : Int) := by omega
            have HFx := Lib.hid (HF hvZ)
            clear HF
            go_wp2_with fail
            go_quiet ((go_at_call 22; exact Calls.quiet_of_same (KXd.out _)))
            clear r0 hdv hwZ ho0 ho1 g1
            clear KXd
            go_wp2_with fail
            go_loopw [10, 11] (fun Is K wr => ∃ k : Nat, k ≤ i ∧ K = .int .i64 k ∧ Is = .bool (hasK ((topL H.L).take k) x) ∧ Below w3.heap.size w3 wr) (fun _ K _ => i - (intOf K).toNat)
            case atStart => exact ⟨0, by omega, rfl, rfl, hbd.out _⟩
            case round =>
              obtain ⟨k, hk, rfl, rfl, hbk⟩ := hrel
              by_cases hlk : k < i
              · have hlk2 : (k : Int) < (i : Int) := by omega
                have hk0 : 0 ≤ (k : Int) := by omega
                obtain ⟨bt, ot, rfl, hbt, hct⟩ := (P3.out.keep hbk).1.ta (by rw [HTl.out]; omega)
                obtain ⟨r0, _, _⟩ := hct k (by rw [HTl.out]; omega)
                have Bk := B3.out.trans (hbk.mono hz3)
                obtain ⟨bx', ox', e', hbx', hcx⟩ := (HSx.out.below Bk (Nat.le_refl _)).intsH (by rw [HN.out]; omega)
                injection e' with e'
                injection e' with e1 e2 _
                subst e1 e2
                have s0 := hcx j (by rw [HN.out]; exact hlj)
                rw [Hx.out] at s0
                have HT := Lib.hid (hasK_take (T := topL H.L) (x := x) (show k < (topL H.L).length by rw [HTl.out]; omega))
                obtain ⟨u, hu⟩ : ∃ u, ((topL H.L).getD k ta0).k = u := ⟨_, rfl⟩
                rw [hu] at r0 HT
                have hbd := Lib.hid (fun nq => hbk.trans (below_drewN w3.heap.size wr nq))
                obtain ⟨bb, hbb⟩ : ∃ bb, hasK ((topL H.L).take k) x = bb := ⟨_, rfl⟩
                rw [hbb] at HT ⊢
                obtain ⟨cc, hcc⟩ : ∃ cc, (u == x) = cc := ⟨_, rfl⟩
                rw [hcc] at HT
                clear hct hcx hbb hu
                cases bb <;> cases cc
                all_goals
                  go_wp2_with fail
                  go_quiet (fail)
                  go_wp2_with fail
                  go_roundw
                  case rel => exact ⟨k + 1, by omega, by go_num, by rw [HT.out]; rfl, hbd.out _⟩
                  case measure => simp [intOf]; omega
              · obtain rfl : k = i := by omega
                rw [show hasK ((topL H.L).take k) x = true from by rw [← HTl.out, List.take_of_length_le (Nat.le_refl _)]; exact HFx.out]
                go_wp2_with fail
                go_roundw
                case rel => exact ⟨j + 1, by omega, by go_num, hbk⟩
                case measure => simp [intOf]; omega
        · obtain rfl : j = N := by omega
          go_wp2_with fail
          refine (K7.out _).mono ?_
          rintro e w12 ⟨rfl, h12⟩
          have hfin := (B3.out.trans (hbj.mono hz3)).trans (h12.mono (Nat.le_trans hz3 hbj.size))
          go_wp2_with fail
          go_ret
          exact ⟨rfl, hfin⟩
end Go.Proofs.Ythghnpopcnnidaa
