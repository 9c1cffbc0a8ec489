/- The walk of the statement AssignShrinks of layer 9. -/
import Derived.Test.YtgeeeaacaofbeaaAsShrink
import Derived.Test.YtgeeeaacaofbeaaBoOpen
namespace Go.Proofs.Ytgeeeaacaofbeaa
open Go.RowKit Vm As
set_option linter.unusedVariables false
set_option linter.unusedSimpArgs false

/-- Who is left of the first i. -/
def leftTo (m : List Int) (g : List Bool) : Nat → List Int
  | 0 => []
  | i + 1 => if i < g.length ∧ g.getD i false = true then leftTo m g i else leftTo m g i ++ [m.getD i 0]
theorem left_sub (m : List Int) (g : List Bool) : ∀ i, i ≤ m.length → (leftTo m g i).Sublist (m.take i) := by
  intro i
  induction i with
  | zero => intro _; exact List.nil_sublist _
  | succ i ih =>
    intro hi
    rw [leftTo, take_one_more m i (by omega)]
    split
    · exact (ih (by omega)).trans (List.sublist_append_left _ _)
    · exact List.Sublist.append (ih (by omega)) (List.Sublist.refl _)
set_option maxRecDepth 100000 in
set_option maxHeartbeats 16000000 in
theorem assignShrinks_law (p : Int) (a1 : Option Addr) (len1 cap1 : Nat) (zs1 : List Int) (a2 : Option Addr) (len2 cap2 : Nat) (zs2 : List Int) (gs : List Bool) (a4 : Option Addr) (c4 : Nat) (w : World) (hp0 : (Lit.int .i64 p).wf = true) (hr1 : IsRow .i64 w a1 len1 cap1 zs1) (hcap1 : cap1 * 8 ≤ 140737488351232) (hr2 : IsRow .i64 w a2 len2 cap2 zs2) (hcap2 : cap2 * 8 ≤ 140737488351232) (hgs : Sl w w.heap.size a4 (boCells gs)) (hgt : ∀ r ∈ gs, True) (hgc : (a4 = none → c4 = 0) ∧ gs.length ≤ c4 ∧ c4 ≤ maxLen) :
    Calls Try.prog 8 #[.int .i64 p, .slice a1 len1 cap1, .slice a2 len2 cap2, .slice a4 gs.length c4] w fun e w' => e = .returned (.bool true) ∧ Below w.heap.size w w' := by
  obtain ⟨i7, hi7, hz70, hz71, hz72⟩ := info_parts info_i64
  obtain ⟨xs, hxn, hsx, hwx, hl1, hlc1⟩ := row_some hr1
  obtain ⟨os, hon, hso, hwo, hl2, hlc2⟩ := row_some hr2
  have C1 := Lib.hid (fun w => some_walk a1 len1 cap1 w hl1 hlc1)
  have C2 := Lib.hid (fun w => some_walk a2 len2 cap2 w hl2 hlc2)
  obtain ⟨M1, hM1⟩ : ∃ M, min len1 70 = M := ⟨_, rfl⟩
  obtain ⟨M2, hM2⟩ : ∃ M, min len2 70 = M := ⟨_, rfl⟩
  rw [hM1] at C1 hxn
  rw [hM2] at C2 hon
  have hM1b : M1 ≤ 70 := by omega
  have hM2b : M2 ≤ 70 := by omega
  have HX := Lib.hid hsx
  have HO := Lib.hid hso
  have HXl := Lib.hid hxn
  have HXW := Lib.hid hwx
  obtain ⟨N4, hN4⟩ : ∃ N4, gs.length = N4 := ⟨_, rfl⟩
  have HN4 := Lib.hid hN4
  have HGS := Lib.hid hgs
  have hN4m : N4 ≤ maxLen := by rw [← hN4]; omega
  unfold maxLen at hN4m
  rw [hN4]
  have K1 := Lib.hid (fun w h h3 => sticky_all p xs os M1 M2 a1 a2 cap1 cap2 w hxn (by omega) hon (by omega) hwx hwo h h3)
  have K2 := Lib.hid (fun w h => rmembers_walk xs M1 a1 cap1 w hxn (by omega) h)
  unfold OutPost at K1
  unfold MemPost at K2
  clear hgs hgt hgc hN4
  by_cases hok : okP p = true
  · obtain ⟨h1, h2⟩ := okP_yes hok
    obtain ⟨M, hMp⟩ : ∃ M : Nat, p = (M : Int) := ⟨p.toNat, by omega⟩
    subst hMp
    have hE : errF (M : Int) = 0 := by unfold errF; rw [if_pos hok]
    have HSe := Lib.hid (show stickyF (M : Int) xs os = stickyL M (memL xs) os by unfold stickyF; rw [if_pos hok]; rfl)
    have HSw := Lib.hid (show ∀ y ∈ stickyF (M : Int) xs os, (Lit.int .i64 y).wf = true from fun y hy => by
      rcases sticky_mem hy with rfl | h
      · exact nat_wf (c := 0) (by omega)
      · exact hwx y h)
    rw [hE] at K1
    obtain ⟨S, hS⟩ : ∃ S, stickyF (M : Int) xs os = S := ⟨_, rfl⟩
    rw [hS] at K1 HSe HSw
    have HSl := Lib.hid (show S.length = M by rw [HSe.out, stickyL_len])
    rw [HSl.out] at K1
    have HOK := Lib.hid hok
    have hM1' : 1 ≤ M := by omega
    have hM2' : M ≤ 64 := by omega
    have HE := Lib.hid hE
    clear hon hso hwo hwx hsx hr1 hr2 hM1 hM2 hl1 hl2 hlc1 hlc2 hxn hE hok hS h1 h2
    go_enter Try.func8, Try.ntmps8
    go_wp2_with fail
    refine (C1.out _).mono ?_
    rintro e w0 ⟨rfl, rfl⟩
    go_wp2_with fail
    refine (C2.out _).mono ?_
    rintro e w0 ⟨rfl, rfl⟩
    clear C1 C2
    go_wp2_with fail
    refine (K1.out _ HX.out HO.out).mono ?_
    rintro e w1 ⟨r1, k1, rfl, q1, s1, g1⟩
    clear q1
    go_wp2_with fail
    refine (K2.out _ (Sl.grow (HX.out.below g1 (Nat.le_refl _)) g1.size)).mono ?_
    rintro e w3 ⟨m, k, a2', c2', hm, hk, rfl, ho, hb3⟩
    have hme := memIs_unique (memL_is xs) hm
    have g3 := g1.trans (hb3.mono g1.size)
    have hg3s := g3.size
    have HSL := Lib.hid (Sl.grow (s1.below hb3 (Nat.le_refl _)) hb3.size)
    have HSm := Lib.hid (ownN_sl ho)
    have HG3 := Lib.hid (HGS.out.below g3 (Nat.le_refl _))
    have hk2 : k ≤ 70 := by have := memIs_len hm; rw [HXl.out] at this; omega
    have HMI := Lib.hid hm
    have HK := Lib.hid hk
    rw [hme] at HSe
    clear s1 ho hme hm hk
    go_wp2_with fail
    go_loopw [12, 13] (fun T I wr => ∃ (i n : Nat) (L : List Int) (a5 : Option Addr) (c5 : Nat), i ≤ k ∧ n ≤ i ∧ I = .int .i64 i ∧ T = .slice a5 n c5 ∧ Hid (L.length = n) ∧ Hid (L = leftTo m gs i) ∧ wr.ownsRow w3.heap.size 3 1 (.slice a5 n c5) n (i64s L) ∧ Below w3.heap.size w3 wr) (fun _ I _ => k - (intOf I).toNat)
    case atStart => exact ⟨0, 0, [], none, 0, Nat.zero_le _, Nat.le_refl _, rfl, rfl, Lib.hid rfl, Lib.hid rfl, World.ownsRow_nil _ _ _ _, Below.refl _ _⟩
    case round =>
      obtain ⟨i, n, L, a5, c5, hik, hni, rfl, rfl, HLl, HLf, own, hz⟩ := hrel
      have hzs := hz.size
      by_cases hil : i < k
      · have hki : (i : Int) < (k : Int) := by omega
        have hi0 : 0 ≤ (i : Int) := by omega
        obtain ⟨bm, om, rfl, hbm, hcm⟩ := HSm.out.ints (by rw [HK.out]; omega)
        have HCM := Lib.hid hcm
        have Hwi := Lib.hid (show IntKind.i64.wrap ((i : Int) + 1) = ((i + 1 : Nat) : Int) by rw [IntWalk.i64_in _ (by omega)]; omega)
        clear hcm
        by_cases hig : i < N4
        · have hgi : (i : Int) < (N4 : Int) := by omega
          have hgi2 : decide ((N4 : Int) ≤ (i : Int)) = false := decide_eq_false (by omega)
          obtain ⟨bg, og, rfl, hbg, hcg⟩ : ∃ b off, a4 = some ⟨b, off, none⟩ ∧ b < w.heap.size ∧ w3.cell? ⟨b, off + i, none⟩ = some (.bool (gs.getD i false)) := by
            rcases HG3.out with h | ⟨b, off, e1, hlt, hc⟩
            · have := congrArg List.length h
              simp [boCells] at this
              rw [this] at HN4; have := HN4.out; simp at this; omega
            · have hl : i < gs.length := by rw [HN4.out]; exact hig
              exact ⟨b, off, e1, hlt, by rw [hc i _ (boCells_at gs i hl)]; simp [List.getD, hl]⟩
          have rg := (hz.cell (p := ⟨bg, og + i, none⟩) (by show bg < _; omega)).trans hcg
          have hbgw : bg < wr.heap.size := by omega
          obtain ⟨b, hb⟩ : ∃ b, gs.getD i false = b := ⟨_, rfl⟩
          rw [hb] at rg
          clear hcg
          cases b
          · go_upto_region 11 with fail
            clear rg
            have rx := HCM.out i (by rw [HK.out]; exact hil)
            obtain ⟨x, hx⟩ : ∃ x, m.getD i 0 = x := ⟨_, rfl⟩
            rw [hx] at rx
            have r1 := (hz.cell (p := ⟨bm, om + i, none⟩) (by show bm < _; omega)).trans rx
            have hbmw : bm < wr.heap.size := by omega
            have HO1 := Lib.hid (own.alloc (.cells #[.int .i64 x] 3))
            have HB1 := Lib.hid (hz.alloc hz.size (.cells #[.int .i64 x] 3))
            have hza := (balloc wr (.cells #[.int .i64 x] 3)).size
            have HLf2 := Lib.hid (show L ++ [x] = leftTo m gs (i + 1) by rw [leftTo, if_neg (fun h => by rw [hb] at h; cases h.2), ← HLf.out, hx])
            have HLl2 := Lib.hid (show (L ++ [x]).length = n + 1 by rw [List.length_append, HLl.out]; rfl)
            clear hx rx own
            go_wp2_with (at_builtin; refine wp_app2 rfl _ _ 22 rfl w3.heap.size 3 i7 (.int .i64 0) 1 8 Try.underlying22 hi7 hz70 hz71 hz72 rfl (by decide) _ _ _ rfl HO1.out _ _ _ rfl [.int .i64 x] _ w3 rfl (sl_fresh _ [.int .i64 x] 3) (fun h => by cases h) (i_one8 _) ?da ?db ?dc HB1.out ?_)
            case da => unfold maxLen; omega
            case db => omega
            case dc => omega
            intro a6 c6 w6 o6 b6 f6
            have HO6 : Hid (w6.ownsRow w3.heap.size 3 1 (.slice a6 (n + 1) c6) (n + 1) (i64s (L ++ [x]))) := Lib.hid (by rw [i64s_snoc]; exact o6)
            clear o6 f6 HO1 HB1 r1 hza
            have hwi := Hwi.out
            go_wp2_with fail
            go_roundw
            case rel => exact ⟨i + 1, n + 1, L ++ [x], a6, c6, by omega, by omega, by go_num, rfl, HLl2, HLf2, HO6.out, b6⟩
            case measure => simp [intOf]; omega
          · have HLf2 := Lib.hid (show L = leftTo m gs (i + 1) by rw [leftTo, if_pos ⟨by rw [HN4.out]; exact hig, hb⟩, ← HLf.out])
            have HOw := Lib.hid own
            clear own hb
            go_upto_region 9 with fail
            clear rg
            have hwi := Hwi.out
            go_wp2_with fail
            go_roundw
            case rel => exact ⟨i + 1, n, L, a5, c5, by omega, by omega, by go_num, rfl, HLl, HLf2, HOw.out, hz⟩
            case measure => simp [intOf]; omega
        · have hgi2 : decide ((N4 : Int) ≤ (i : Int)) = true := decide_eq_true (by omega)
          go_upto_region 11 with fail
          have rx := HCM.out i (by rw [HK.out]; exact hil)
          obtain ⟨x, hx⟩ : ∃ x, m.getD i 0 = x := ⟨_, rfl⟩
          rw [hx] at rx
          have r1 := (hz.cell (p := ⟨bm, om + i, none⟩) (by show bm < _; omega)).trans rx
          have hbmw : bm < wr.heap.size := by omega
          have HO1 := Lib.hid (own.alloc (.cells #[.int .i64 x] 3))
          have HB1 := Lib.hid (hz.alloc hz.size (.cells #[.int .i64 x] 3))
          have hza := (balloc wr (.cells #[.int .i64 x] 3)).size
          have HLf2 := Lib.hid (show L ++ [x] = leftTo m gs (i + 1) by rw [leftTo, if_neg (fun h => by rw [HN4.out] at h; exact hig h.1), ← HLf.out, hx])
          have HLl2 := Lib.hid (show (L ++ [x]).length = n + 1 by rw [List.length_append, HLl.out]; rfl)
          clear hx rx own
          go_wp2_with (at_builtin; refine wp_app2 rfl _ _ 22 rfl w3.heap.size 3 i7 (.int .i64 0) 1 8 Try.underlying22 hi7 hz70 hz71 hz72 rfl (by decide) _ _ _ rfl HO1.out _ _ _ rfl [.int .i64 x] _ w3 rfl (sl_fresh _ [.int .i64 x] 3) (fun h => by cases h) (i_one8 _) ?da ?db ?dc HB1.out ?_)
          case da => unfold maxLen; omega
          case db => omega
          case dc => omega
          intro a6 c6 w6 o6 b6 f6
          have HO6 : Hid (w6.ownsRow w3.heap.size 3 1 (.slice a6 (n + 1) c6) (n + 1) (i64s (L ++ [x]))) := Lib.hid (by rw [i64s_snoc]; exact o6)
          clear o6 f6 HO1 HB1 r1 hza
          have hwi := Hwi.out
          go_wp2_with fail
          go_roundw
          case rel => exact ⟨i + 1, n + 1, L ++ [x], a6, c6, by omega, by omega, by go_num, rfl, HLl2, HLf2, HO6.out, b6⟩
          case measure => simp [intOf]; omega
      · obtain rfl : i = k := by omega
        have hsub0 := left_sub m gs i (by rw [HK.out]; exact Nat.le_refl _)
        rw [← HLf.out, List.take_of_length_le (by rw [HK.out]; exact Nat.le_refl _)] at hsub0
        have hmp : ∀ x ∈ m, 0 < x := fun x hx => ((HMI.out.2 x).1 hx).2
        have hml : memL L = L := memIs_unique (memL_is L) ⟨HMI.out.1.sublist hsub0, fun x => ⟨fun h => ⟨h, hmp x (hsub0.subset h)⟩, fun h => h.1⟩⟩
        have hwL : ∀ x ∈ L, (Lit.int .i64 x).wf = true := fun x hx => HXW.out x ((HMI.out.2 x).1 (hsub0.subset hx)).1
        have K4 := Lib.hid (fun w h h3 => sticky_all (M : Int) L S n M a5 r1 c5 k1 w HLl.out (by omega) HSl.out (by omega) hwL HSw.out h h3)
        have HB := Lib.hid (show ∀ t, t < M → S.getD t 0 ∈ L → (stickyF (M : Int) L S).getD t 0 = S.getD t 0 from fun t ht hx => by
          have hL0 : 0 < L.length := List.length_pos_of_mem hx
          have hm0 : 0 < m.length := Nat.lt_of_lt_of_le hL0 hsub0.length_le
          have hF := fair_sticky M m os HMI.out.1 hmp hm0
          rw [← HSe.out] at hF
          unfold stickyF
          rw [if_pos HOK.out, hml]
          exact shrink_ok HMI.out.1 hmp hF hsub0 hL0 ht hx)
        obtain ⟨B, hB⟩ : ∃ B, stickyF (M : Int) L S = B := ⟨_, rfl⟩
        have HBl := Lib.hid (show B.length = M by rw [← hB]; unfold stickyF; rw [if_pos HOK.out, stickyL_len]; rfl)
        rw [hB, HE.out] at K4
        rw [hB] at HB
        unfold OutPost at K4
        rw [HBl.out] at K4
        have HLs := Lib.hid (ownN_sl own)
        have hMM : ((M : Int) != (M : Int)) = false := by simp
        clear hsub0 hmp hml hwL hB own
        go_wp2_with fail
        refine (K4.out _ HLs.out (Sl.grow (HSL.out.below hz (Nat.le_refl _)) hzs)).mono ?_
        rintro e w4 ⟨r4, k4, rfl, q4, s4, b4⟩
        have hz4 := hz.trans (b4.mono hzs)
        have hz4s := b4.size
        have HL4 := Lib.hid (Sl.grow (HLs.out.below b4 (Nat.le_refl _)) b4.size)
        have HS4 := Lib.hid (Sl.grow ((HSL.out.below hz4 (Nat.le_refl _))) (Nat.le_trans hzs hz4s))
        have HB4 := Lib.hid s4
        clear q4 s4 b4 HLs
        go_upto_region 15 with fail
        clear hMM
        go_wp2_with fail
        go_loopw [16] (fun P wr => ∃ t : Nat, t ≤ M ∧ P = .int .i64 t ∧ Below w4.heap.size w4 wr) (fun P _ => M - (intOf P).toNat)
        case atStart => exact ⟨0, Nat.zero_le _, rfl, Below.refl _ _⟩
        case round =>
          obtain ⟨t, htM, rfl, hy⟩ := hrel
          have hys := hy.size
          by_cases htl : t < M
          · have hti : (t : Int) < (M : Int) := by omega
            have ht0 : 0 ≤ (t : Int) := by omega
            obtain ⟨ba, oa, rfl, hba, hca⟩ := HS4.out.ints (by rw [HSl.out]; omega)
            obtain ⟨bb, ob, rfl, hbb, hcb⟩ := HB4.out.ints (by rw [HBl.out]; omega)
            have ra := (hy.cell (p := ⟨ba, oa + t, none⟩) (by show ba < _; omega)).trans (hca t (by rw [HSl.out]; exact htl))
            have rb := (hy.cell (p := ⟨bb, ob + t, none⟩) (by show bb < _; omega)).trans (hcb t (by rw [HBl.out]; exact htl))
            have hbt := HB.out t htl
            obtain ⟨x, hx⟩ : ∃ x, S.getD t 0 = x := ⟨_, rfl⟩
            rw [hx] at ra hbt
            have hbaw : ba < wr.heap.size := by omega
            have hbbw : bb < wr.heap.size := by omega
            have KC0 : ∀ nq, _ := fun nq => rcount_walk L n x a5 c5 w4.heap.size (wr.drewN nq) HLl.out (by omega) ((HL4.out.below hy (Nat.le_refl _)).below (below_drewN w4.heap.size wr nq) (Nat.le_refl _)) hys
            obtain ⟨cl, hcl⟩ : ∃ cl, cnt L x = cl := ⟨_, rfl⟩
            rw [hcl] at KC0
            have KC := Lib.hid KC0
            have Hwp := Lib.hid (show IntKind.i64.wrap ((t : Int) + 1) = ((t + 1 : Nat) : Int) by rw [IntWalk.i64_in _ (by omega)]; omega)
            clear KC0 hca hcb hx
            by_cases hxL : x ∈ L
            · have hc0 : decide (0 < cl) = true := decide_eq_true (by rw [← hcl]; exact List.count_pos_iff.2 hxL)
              rw [hbt hxL] at rb
              have hxx : (x != x) = false := by simp
              clear hbt hxL hcl
              go_upto_region 18 with fail
              go_quiet ((go_at_call 19; exact Calls.quiet_of_same (KC.out _)))
              clear ra rb hc0
              have hwp := Hwp.out
              go_wp2_with fail
              go_roundw
              case rel => exact ⟨t + 1, by omega, by go_num, hy.trans (below_drewN _ _ _)⟩
              case measure => simp [intOf]; omega
            · have hc0 : decide (0 < cl) = false := decide_eq_false (by rw [← hcl]; exact fun h => hxL (List.count_pos_iff.1 h))
              clear hbt hxL hcl
              go_upto_region 18 with fail
              go_quiet ((go_at_call 19; exact Calls.quiet_of_same (KC.out _)))
              clear ra rb hc0
              have hwp := Hwp.out
              go_wp2_with fail
              go_roundw
              case rel => exact ⟨t + 1, by omega, by go_num, hy.trans (below_drewN _ _ _)⟩
              case measure => simp [intOf]; omega
          · obtain rfl : t = M := by omega
            go_wp2_with fail
            refine (awake09_walk _).mono ?_
            rintro e w8 ⟨rfl, b8⟩
            have g5 := g3.trans ((hz4.trans (hy.mono (Nat.le_trans hzs hz4s))).mono hg3s)
            have g8 := g5.trans (b8.mono g5.size)
            go_wp2_with fail
            go_ret
            exact ⟨rfl, g8⟩
  · have hE : errF p = 1 := by unfold errF; rw [if_neg hok]
    have hS : stickyF p xs os = [] := by unfold stickyF; rw [if_neg hok]
    rw [hE, hS] at K1
    clear hon hso hwo hwx hsx hr1 hr2 hM1 hM2 hl1 hl2 hlc1 hlc2 hxn hE hok hS
    go_enter Try.func8, Try.ntmps8
    go_wp2_with fail
    refine (C1.out _).mono ?_
    rintro e w0 ⟨rfl, rfl⟩
    go_wp2_with fail
    refine (C2.out _).mono ?_
    rintro e w0 ⟨rfl, rfl⟩
    clear C1 C2
    go_wp2_with fail
    refine (K1.out _ HX.out HO.out).mono ?_
    rintro e w1 ⟨r1, k1, rfl, q1, s1, g1⟩
    clear q1
    go_wp2_with fail
    refine (awake09_walk _).mono ?_
    rintro e w8 ⟨rfl, b8⟩
    have g8 := g1.trans (b8.mono g1.size)
    go_wp2_with fail
    go_ret
    exact ⟨rfl, g8⟩
end Go.Proofs.Ytgeeeaacaofbeaa
