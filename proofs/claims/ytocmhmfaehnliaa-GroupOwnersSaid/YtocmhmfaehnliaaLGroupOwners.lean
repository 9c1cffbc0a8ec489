/- The walk of GroupOwners. -/
import Derived.Test.YtocmhmfaehnliaaGrOwn
import Derived.Test.YtocmhmfaehnliaaGrAim
import Derived.Deep.RegionHeld3
import Derived.Deep.Cut
namespace Go.Proofs.Ytocmhmfaehnliaa
open Go.RowKit Vm As
set_option linter.unusedVariables false
set_option linter.unusedSimpArgs false

set_option maxRecDepth 100000 in
set_option maxHeartbeats 32000000 in
theorem groupOwners_law (z : Int) (st : Bool) (l : List Gd) (a : Option Addr) (c : Nat) (w : World) (hz : (Lit.int .i64 z).wf = true) (hl : Sl w w.heap.size a (gdCells l)) (hi : ∀ r ∈ l, GdI r) (hc : (a = none → c = 0) ∧ l.length ≤ c ∧ c ≤ maxLen) :
    Calls Try.prog 4 #[.int .i64 z, .bool st, .slice a l.length c] w fun e w' => e = .returned (.bool true) ∧ Below w.heap.size w w' := by
  obtain ⟨hq, hq2, hq3, hq4⟩ := pickN_is z 4 (by omega)
  obtain ⟨j4, hj4⟩ : ∃ j4, pickN z 4 = j4 := ⟨_, rfl⟩
  rw [hj4] at hq hq2
  obtain ⟨P, hPj⟩ : ∃ P, j4 + 1 = P := ⟨_, rfl⟩
  have hP1 : 1 ≤ P ∧ P ≤ 4 := by omega
  have hnew : newOk P 0 1 = true := by unfold newOk; simp; omega
  have KN := Lib.hid (new_ga P st 0 1 w hnew)
  have HI0 := Lib.hid (shrI_new (st := st) hnew)
  unfold NewQ at KN
  have KD := Lib.hid (fun K x G g S w (hK : K ≤ 700) hok h => does_walk K x G g S w hK hok h)
  unfold DoQ at KD
  obtain ⟨N, hN⟩ : ∃ N, min l.length 120 = N := ⟨_, rfl⟩
  have hNm : N ≤ 120 := by omega
  have hNl : N ≤ l.length := by omega
  obtain ⟨n, hn⟩ : ∃ n, l.length = n := ⟨_, rfl⟩
  have KS := Lib.hid (fun w => some10_walk a n c w (by have h9 := hc.2.2; unfold maxLen at h9; omega) (by rw [← hn]; exact hc.2.1))
  rw [hn] at hN
  rw [hN] at KS
  have HS := Lib.hid hl
  have HNl := Lib.hid hNl
  rw [hn]
  generalize hGZ : newG P st 0 1 = GZ at *
  have K7 := Lib.hid (fun w => awake10_walk w)
  have HQ := Lib.hid hq
  have hwp : Hid (IntKind.i64.wrap (1 + (j4 : Int)) = (P : Int)) := Lib.hid (by rw [IntWalk.i64_in _ (by omega)]; omega)
  clear hl hi hc hN hNl hn hz hnew hj4 hGZ
  replace hq : (z.tmod 4 + 4).tmod 4 = (j4 : Int) := hq
  replace hq3 : -4 < z.tmod 4 := hq3
  replace hq4 : z.tmod 4 < 4 := hq4
  have hq0 : IntKind.i64.wrap (z.tmod 4 + 4) = z.tmod 4 + 4 := IntWalk.i64_in _ (by omega)
  have hw1 := hwp.out
  go_enter Try.func4, Try.ntmps4
  go_upto_region 2 with fail
  clear hq0 hw1
  go_wp2_with fail
  refine KN.out.mono ?_
  rintro e w0 ⟨g, S0, rfl, A0, hZ0, b0⟩
  go_wp2_with fail
  refine (KS.out w0).mono ?_
  rintro e w1 ⟨rfl, rfl⟩
  clear KN KS hq
  go_wp2_with fail
  go_loopw [9] (fun I wr => ∃ (k : Nat) (S : Nat → Prop) (G : Gr), k ≤ N ∧ I = .int .i64 k ∧ GA wr g G S ∧ Hid (ShrI P G k) ∧ Hid (∀ x, S x → w.heap.size ≤ x) ∧ Below w.heap.size w wr) (fun I _ => N - (intOf I).toNat)
  case atStart => exact ⟨0, S0, GZ, by omega, rfl, A0, HI0, hZ0, b0⟩
  case round =>
    obtain ⟨k, S, G, hk, rfl, A, HSh, hZ, hb⟩ := hrel
    clear A0 hZ0 b0
    by_cases hlt : k < N
    · have hlt2 : (k : Int) < (N : Int) := by omega
      have hk0 : 0 ≤ (k : Int) := by omega
      have Hwk := Lib.hid (show IntKind.i64.wrap ((k : Int) + 1) = ((k + 1 : Nat) : Int) by rw [IntWalk.i64_in _ (by omega)]; omega)
      obtain ⟨b1, o1, rfl, hb1, z0, z1, z2, z3, z4⟩ := (HS.out.below hb (Nat.le_refl _)).gd5 (k := k) (by have := HNl.out; omega)
      have KDD := Lib.hid (KD.out k (l.getD k gd0) _ g S wr (by omega) HSh.out.ok A)
      have HSh1 : Hid (ShrI P (doesG G (l.getD k gd0)) (k + 1)) := Lib.hid (shrI_step HSh.out)
      generalize hx : l.getD k gd0 = xx at *
      obtain ⟨xk, xa, xb, xp, xn⟩ := xx
      unfold gdV at KDD
      simp only at z0 z1 z2 z3 z4 KDD
      generalize hG1 : doesG G ⟨xk, xa, xb, xp, xn⟩ = G1 at *
      have hz1 : b1 < wr.heap.size := by have := hb.size; omega
      clear hx hG1
      go_wp2_with fail
      refine KDD.out.mono ?_
      rintro e w5 ⟨rfl, S5, A5, M5⟩
      have b5 := hb.trans (M5.low hZ.out hb.size)
      have hZ5 := Lib.hid (M5.low2 hZ.out hb.size)
      clear KDD z0 z1 z2 z3 z4 A M5
      have hlm := HSh1.out.ok.len
      have hol := HSh1.out.len
      obtain ⟨n1, hn1⟩ : ∃ n1, G1.L.length = n1 := ⟨_, rfl⟩
      obtain ⟨gx, hgx⟩ : ∃ gx, G1.g = gx := ⟨_, rfl⟩
      have HL1 := Lib.hid hn1
      have HP := Lib.hid hol
      have HGX := Lib.hid hgx
      have KM := Lib.hid (members_ga G1 g S5 w5 (by omega) A5)
      unfold RowQ at KM
      rw [hn1] at KM hlm
      have KO := Lib.hid (fun w' (y : Below w5.heap.size w5 w') => owners_ga G1 g S5 w' (by omega) (A5.keep y))
      unfold RowQ at KO
      rw [hol] at KO
      clear hol hn1 hgx
      go_wp2_with fail
      refine KM.out.mono ?_
      rintro e w6 ⟨a6, c6, rfl, p6, h6⟩
      have A6 := A5.keep h6
      have b6 := b5.trans (h6.mono b5.size)
      clear KM
      go_wp2_with fail
      refine (KO.out w6 h6).mono ?_
      rintro e w7 ⟨a7, c7, rfl, p7, h7⟩
      have A7 := A6.keep h7
      have q6 := p6.keep h7
      have b7 := b6.trans (h7.mono b6.size)
      have KC0 := Lib.hid (rcount_walk G1.O P 0 a7 c7 w7.heap.size w7 HP.out (by omega) p7.1 (Nat.le_refl _))
      have hPP : ((P : Int) != (P : Int)) = false := by simp
      have HA7 := Lib.hid A7
      have HQ6 := Lib.hid q6
      have HP7 := Lib.hid p7
      have hw7 := b7.size
      clear KO A5 A6 p6 A7 q6 p7 b5 b6 h6 h7
      go_upto_region 11 with fail
      go_cut [68] from 54 to 68 (fun v wx => v = .bool false ∧ wx = w7)
      case first =>
        rcases Nat.eq_zero_or_pos n1 with h0 | h0
        · have hc := shrI_zero HSh1.out (by rw [HL1.out, h0])
          rw [hc] at KC0
          clear hc
          subst h0
          go_wp2_with fail
          refine KC0.out.mono ?_
          rintro e w8 ⟨rfl, hw8⟩
          subst hw8
          go_wp2_with fail
          go_meet
          exact ⟨rfl, rfl⟩
        · have hkz : ((n1 : Int) == 0) = false := beq_eq_false_iff_ne.2 (by omega)
          go_wp2_with fail
          go_meet
          exact ⟨rfl, rfl⟩
      case rest =>
        obtain ⟨hv, hw⟩ := hcut
        subst hv
        subst hw
        obtain ⟨Q, hQ⟩ : ∃ Q, P / n1 = Q := ⟨_, rfl⟩
        have hQP : Q ≤ 4 := by have := Nat.div_le_self P n1; omega
        have Hqd := Lib.hid (show wrap64 ((P : Int) / (n1 : Int)) = (Q : Int) by
          rw [← Int.natCast_ediv, hQ, IntWalk.wrap64_in _ (by omega)])
        have Hqs := Lib.hid (show wrap64 ((Q : Int) + 1) = ((Q + 1 : Nat) : Int) by rw [IntWalk.wrap64_in _ (by omega)]; omega)
        have HQ2 := Lib.hid hQ
        clear KC0 hPP hQ
        go_wp2_with fail
        go_loopw [12, 13] (fun T J wr => ∃ (q s : Nat) (Gq : Gr) (Sq : Nat → Prop), q ≤ n1 ∧ s ≤ 4 ∧ J = .int .i64 q ∧ T = .int .i64 s ∧ Hid (s = sumC G1.O ((idsL G1.L).take q)) ∧ GA wr g Gq Sq ∧ Hid (ShrI P Gq (k + 1)) ∧ Hid (idsL Gq.L = idsL G1.L ∧ Gq.O = G1.O ∧ Gq.g = gx) ∧ Hid (Apt wr Sq a6 (mbCells G1.L)) ∧ Hid (Apt wr Sq a7 (i64s G1.O)) ∧ Hid (∀ x, Sq x → w.heap.size ≤ x) ∧ Below w.heap.size w wr) (fun _ J _ => n1 - (intOf J).toNat)
        case atStart => exact ⟨0, 0, G1, S5, by omega, by omega, rfl, rfl, Lib.hid (by simp [sumC]), HA7.out, HSh1, Lib.hid ⟨rfl, rfl, HGX.out⟩, HQ6, HP7, hZ5, b7⟩
        case round =>
          obtain ⟨q, s, Gq, Sq, hqn, hs4, rfl, rfl, HSI, Aq, HShq, HGq, pq, oq, hZq, hbq⟩ := hrel
          by_cases hlq : q < n1
          · have hlq2 : (q : Int) < (n1 : Int) := by omega
            have hq0 : 0 ≤ (q : Int) := by omega
            have hn1p : 0 < n1 := by omega
            have hkz : ((n1 : Int) == 0) = false := beq_eq_false_iff_ne.2 (by omega)
            obtain ⟨hshare, hsum⟩ := shrI_share HSh1.out (by rw [HL1.out]; exact hn1p)
            rw [HL1.out, HQ2.out] at hshare
            obtain ⟨bm, om, rfl, hbm, hcm⟩ := pq.out.1.mb (by rw [HL1.out]; omega)
            obtain ⟨r0, _, _⟩ := hcm q (by rw [HL1.out]; exact hlq)
            have hT := sumC_take G1.O (idsL G1.L) q (by rw [idsL_len, HL1.out]; exact hlq)
            rw [ids_getD (by rw [HL1.out]; exact hlq)] at hT
            have hxm : (G1.L.getD q mb0).i ∈ idsL G1.L := List.mem_map_of_mem (getD_mem G1.L mb0 q (by rw [HL1.out]; exact hlq))
            obtain ⟨x, hx⟩ : ∃ x, (G1.L.getD q mb0).i = x := ⟨_, rfl⟩
            rw [hx] at r0 hT hxm
            have HXI := Lib.hid hx
            obtain ⟨hlo, hup⟩ := hshare x hxm
            have KX := rcount_walk G1.O P x a7 c7 wr.heap.size wr HP.out (by omega) oq.out.1 (Nat.le_refl _)
            have hon := ownTo_cnt G1.O x P (by rw [HP.out]; exact Nat.le_refl _)
            rw [List.take_of_length_le (by rw [HP.out]; exact Nat.le_refl _)] at hon
            have hle := sumC_take_le G1.O (idsL G1.L) (q + 1)
            obtain ⟨cx, hcx⟩ : ∃ cx, cnt G1.O x = cx := ⟨_, rfl⟩
            rw [hcx] at KX hlo hup hT hon
            have HKX := Lib.hid KX
            have HLo := Lib.hid hon
            have hs2 : s + cx ≤ 4 := by
              rw [hT, ← HSI.out, hsum] at hle
              omega
            have HS2 := Lib.hid (show s + cx = sumC G1.O ((idsL G1.L).take (q + 1)) by rw [hT, ← HSI.out])
            have Hws := Lib.hid (show IntKind.i64.wrap ((s : Int) + (cx : Int)) = ((s + cx : Nat) : Int) by rw [IntWalk.i64_in _ (by omega)]; omega)
            have hh : hasI Gq.L x = true := hasI_cnt.2 (by
              rw [HGq.out.1]
              have : 0 < (idsL G1.L).count x := List.count_pos_iff.2 hxm
              unfold cnt
              omega)
            have HSY := Lib.hid (sync_ga (k + 1) x Gq g Sq wr (by omega) HShq.out.ok Aq)
            unfold SyncQ at HSY
            rw [show syncN Gq x = gx from by unfold syncN; rw [if_pos hh, HGq.out.2.2], show syncE Gq x = 0 from by unfold syncE; rw [if_pos hh], show syncL Gq x = ownTo G1.O x P from by unfold syncL; rw [if_pos hh, HGq.out.2.1, HP.out], hon] at HSY
            have HShS : Hid (ShrI P (syncG Gq x) (k + 1)) := Lib.hid (shrI_sync HShq.out)
            have HGs : Hid (idsL (syncG Gq x).L = idsL G1.L ∧ (syncG Gq x).O = G1.O ∧ (syncG Gq x).g = gx) := Lib.hid (by
              unfold syncG
              rw [if_pos hh]
              exact ⟨by rw [ids_hear]; exact HGq.out.1, HGq.out.2.1, HGq.out.2.2⟩)
            have HHs : Hid (hasI (syncG Gq x).L x = true) := Lib.hid (hasI_cnt.2 (by
              rw [HGs.out.1]
              have : 0 < (idsL G1.L).count x := List.count_pos_iff.2 hxm
              unfold cnt
              omega))
            clear hcm hx hxm hcx KX hT hon hle hh hshare hsum
            go_wp2_with fail
            refine HKX.out.mono ?_
            rintro e w4 ⟨rfl, hw4⟩
            subst hw4
            clear HKX
            by_cases hcq : cx = Q
            · have hg : ((cx : Int) != wrap64 ((P : Int) / (n1 : Int))) = false := by rw [Hqd.out, hcq]; simp
              clear hcq hlo hup
              go_upto_region 20 with fail
              clear hg
              have hws := Hws.out
              go_upto_region 21 with fail
              clear hws
              have hr0 := r0
              go_wp2_with fail
              refine HSY.out.mono ?_
              rintro e w8 ⟨al, cl, rfl, S8, A8, M8, s8⟩
              have p8 := Lib.hid (pq.out.mvs M8)
              have o8 := Lib.hid (oq.out.mvs M8)
              have b8 := hbq.trans (M8.low hZq.out hbq.size)
              have hZ8 := Lib.hid (M8.low2 hZq.out hbq.size)
              have hw8 := b8.size
              have KGe := Lib.hid (fun w' (y : Below w8.heap.size w8 w') => gen_ga _ g S8 w' (A8.keep y))
              rw [HGs.out.2.2] at KGe
              have KMy := Lib.hid (fun p w' (hp : mayE (syncG Gq x) x gx p = 0) (y : Below w8.heap.size w8 w') => (hp ▸ may_ga (k + 1) x gx p _ g S8 w' (by omega) HShS.out.ok (A8.keep y) : Calls Try.prog 21 #[.pointer (some ⟨g, 0, none⟩), .int .i64 x, .int .i64 gx, .int .i64 p] w' fun e w'' => e = .returned (.int .i64 0) ∧ Below w'.heap.size w' w''))
              have A8' := Lib.hid A8
              have s8' := Lib.hid s8
              have hcc0 : ((cx : Int) != (cx : Int)) = false := by simp
              clear HSY A8 s8 M8 hr0 Aq
              go_wp2_with fail
              go_loopw [18] (fun J wr => ∃ j : Nat, j ≤ cx ∧ J = .int .i64 j ∧ Below w8.heap.size w8 wr) (fun J _ => cx - (intOf J).toNat)
              case atStart => exact ⟨0, by omega, rfl, Below.refl _ _⟩
              case round =>
                obtain ⟨j, hj, rfl, hbj⟩ := hrel
                by_cases hlj : j < cx
                · have hlj2 : (j : Int) < (cx : Int) := by omega
                  have hj0 : 0 ≤ (j : Int) := by omega
                  obtain ⟨bm', om', e', hbm', hcm⟩ := (p8.out.keep hbj).1.mb (by rw [HL1.out]; omega)
                  injection e' with e'
                  injection e' with e1 e2 _
                  subst e1 e2
                  obtain ⟨t0, _, _⟩ := hcm q (by rw [HL1.out]; exact hlq)
                  have hxg : (G1.L.getD q mb0).i = x := HXI.out
                  rw [hxg] at t0
                  obtain ⟨bo, oo, rfl, hbo, hco⟩ := (s8'.out.below hbj (Nat.le_refl _)).ints (by rw [HLo.out]; omega)
                  have t1 := hco j (by rw [HLo.out]; exact hlj)
                  obtain ⟨pp, hpp, hpP, hpO⟩ := ownTo_at G1.O x P j (by rw [HLo.out]; exact hlj)
                  rw [hpp] at t1
                  have hmay : mayE (syncG Gq x) x gx (pp : Int) = 0 := by
                    unfold mayE
                    rw [HGs.out.2.1, HGs.out.2.2, HHs.out, if_pos rfl, if_pos rfl, if_pos ⟨by omega, by rw [HP.out]; omega, by simpa using hpO⟩]
                  have KMj := Lib.hid (fun w' y => KMy.out (pp : Int) w' hmay y)
                  have hS0 : wr.drew.cell? ⟨bm, om + q * 3, none⟩ = some (.int .i64 x) ∧ wr.drew.cell? ⟨bo, oo + j, none⟩ = some (.int .i64 (pp : Int)) ∧ Below w8.heap.size w8 wr.drew := ⟨t0, t1, hbj.trans (Below.refl _ _).drew⟩
                  have hbm2 : bm < wr.heap.size := hbm'
                  have hbo2 : bo < wr.heap.size := by have := hbj.size; omega
                  clear hcm hco hpp hpP hpO hmay hxg
                  go_wp2_with fail
                  go_region_held3 (fun w' => w'.cell? ⟨bm, om + q * 3, none⟩ = some (.int .i64 x) ∧ w'.cell? ⟨bo, oo + j, none⟩ = some (.int .i64 (pp : Int)) ∧ Below w8.heap.size w8 w')
                    (first | with_reducible assumption | assumption)
                    (first
                      | (go_at_call 22; refine (KGe.out _ (below_of (by assumption))).mono ?_; rintro e w3 ⟨rfl, h3⟩; have y := held_own (by assumption) h3)
                      | (go_at_call 21; refine (KMj.out _ (below_of (by assumption))).mono ?_; rintro e w4 ⟨rfl, h4⟩; have y := held_own (by assumption) h4))
                  all_goals
                    obtain ⟨_, _, e6⟩ := y
                    clear t0 t1
                    go_wp2_with fail
                    go_roundw
                    case rel => exact ⟨j + 1, by omega, by go_num, e6⟩
                    case measure => simp [intOf]; omega
                · obtain rfl : j = cx := by omega
                  go_wp2_with fail
                  go_roundw
                  case rel => exact ⟨q + 1, s + j, syncG Gq x, S8, by omega, hs2, by go_num, by go_num, HS2, A8'.out.keep hbj, HShS, HGs, Lib.hid (p8.out.keep hbj), Lib.hid (o8.out.keep hbj), hZ8, b8.trans (hbj.mono hw8)⟩
                  case measure => simp [intOf]; omega
            · have hcq2 : cx = Q + 1 := by omega
              have hg : ((cx : Int) != wrap64 ((P : Int) / (n1 : Int))) = true := by rw [Hqd.out]; simp; omega
              have hg2 : ((cx : Int) != wrap64 (wrap64 ((P : Int) / (n1 : Int)) + 1)) = false := by rw [Hqd.out, Hqs.out, hcq2]; simp
              clear hcq hcq2 hlo hup
              go_upto_region 20 with fail
              clear hg hg2
              have hws := Hws.out
              go_upto_region 21 with fail
              clear hws
              have hr0 := r0
              go_wp2_with fail
              refine HSY.out.mono ?_
              rintro e w8 ⟨al, cl, rfl, S8, A8, M8, s8⟩
              have p8 := Lib.hid (pq.out.mvs M8)
              have o8 := Lib.hid (oq.out.mvs M8)
              have b8 := hbq.trans (M8.low hZq.out hbq.size)
              have hZ8 := Lib.hid (M8.low2 hZq.out hbq.size)
              have hw8 := b8.size
              have KGe := Lib.hid (fun w' (y : Below w8.heap.size w8 w') => gen_ga _ g S8 w' (A8.keep y))
              rw [HGs.out.2.2] at KGe
              have KMy := Lib.hid (fun p w' (hp : mayE (syncG Gq x) x gx p = 0) (y : Below w8.heap.size w8 w') => (hp ▸ may_ga (k + 1) x gx p _ g S8 w' (by omega) HShS.out.ok (A8.keep y) : Calls Try.prog 21 #[.pointer (some ⟨g, 0, none⟩), .int .i64 x, .int .i64 gx, .int .i64 p] w' fun e w'' => e = .returned (.int .i64 0) ∧ Below w'.heap.size w' w''))
              have A8' := Lib.hid A8
              have s8' := Lib.hid s8
              have hcc0 : ((cx : Int) != (cx : Int)) = false := by simp
              clear HSY A8 s8 M8 hr0 Aq
              go_wp2_with fail
              go_loopw [18] (fun J wr => ∃ j : Nat, j ≤ cx ∧ J = .int .i64 j ∧ Below w8.heap.size w8 wr) (fun J _ => cx - (intOf J).toNat)
              case atStart => exact ⟨0, by omega, rfl, Below.refl _ _⟩
              case round =>
                obtain ⟨j, hj, rfl, hbj⟩ := hrel
                by_cases hlj : j < cx
                · have hlj2 : (j : Int) < (cx : Int) := by omega
                  have hj0 : 0 ≤ (j : Int) := by omega
                  obtain ⟨bm', om', e', hbm', hcm⟩ := (p8.out.keep hbj).1.mb (by rw [HL1.out]; omega)
                  injection e' with e'
                  injection e' with e1 e2 _
                  subst e1 e2
                  obtain ⟨t0, _, _⟩ := hcm q (by rw [HL1.out]; exact hlq)
                  have hxg : (G1.L.getD q mb0).i = x := HXI.out
                  rw [hxg] at t0
                  obtain ⟨bo, oo, rfl, hbo, hco⟩ := (s8'.out.below hbj (Nat.le_refl _)).ints (by rw [HLo.out]; omega)
                  have t1 := hco j (by rw [HLo.out]; exact hlj)
                  obtain ⟨pp, hpp, hpP, hpO⟩ := ownTo_at G1.O x P j (by rw [HLo.out]; exact hlj)
                  rw [hpp] at t1
                  have hmay : mayE (syncG Gq x) x gx (pp : Int) = 0 := by
                    unfold mayE
                    rw [HGs.out.2.1, HGs.out.2.2, HHs.out, if_pos rfl, if_pos rfl, if_pos ⟨by omega, by rw [HP.out]; omega, by simpa using hpO⟩]
                  have KMj := Lib.hid (fun w' y => KMy.out (pp : Int) w' hmay y)
                  have hS0 : wr.drew.cell? ⟨bm, om + q * 3, none⟩ = some (.int .i64 x) ∧ wr.drew.cell? ⟨bo, oo + j, none⟩ = some (.int .i64 (pp : Int)) ∧ Below w8.heap.size w8 wr.drew := ⟨t0, t1, hbj.trans (Below.refl _ _).drew⟩
                  have hbm2 : bm < wr.heap.size := hbm'
                  have hbo2 : bo < wr.heap.size := by have := hbj.size; omega
                  clear hcm hco hpp hpP hpO hmay hxg
                  go_wp2_with fail
                  go_region_held3 (fun w' => w'.cell? ⟨bm, om + q * 3, none⟩ = some (.int .i64 x) ∧ w'.cell? ⟨bo, oo + j, none⟩ = some (.int .i64 (pp : Int)) ∧ Below w8.heap.size w8 w')
                    (first | with_reducible assumption | assumption)
                    (first
                      | (go_at_call 22; refine (KGe.out _ (below_of (by assumption))).mono ?_; rintro e w3 ⟨rfl, h3⟩; have y := held_own (by assumption) h3)
                      | (go_at_call 21; refine (KMj.out _ (below_of (by assumption))).mono ?_; rintro e w4 ⟨rfl, h4⟩; have y := held_own (by assumption) h4))
                  all_goals
                    obtain ⟨_, _, e6⟩ := y
                    clear t0 t1
                    go_wp2_with fail
                    go_roundw
                    case rel => exact ⟨j + 1, by omega, by go_num, e6⟩
                    case measure => simp [intOf]; omega
                · obtain rfl : j = cx := by omega
                  go_wp2_with fail
                  go_roundw
                  case rel => exact ⟨q + 1, s + j, syncG Gq x, S8, by omega, hs2, by go_num, by go_num, HS2, A8'.out.keep hbj, HShS, HGs, Lib.hid (p8.out.keep hbj), Lib.hid (o8.out.keep hbj), hZ8, b8.trans (hbj.mono hw8)⟩
                  case measure => simp [intOf]; omega
          · obtain rfl : q = n1 := by omega
            rcases Nat.eq_zero_or_pos q with h0 | h0
            · have h0b : ¬ 0 < q := by omega
              have h0c : ¬ 0 < (q : Int) := by omega
              clear h0
              go_wp2_with fail
              go_roundw
              case rel => exact ⟨k + 1, Sq, Gq, by omega, by go_num, Aq, HShq, hZq, hbq⟩
              case measure => simp [intOf]; omega
            · have h0c : 0 < (q : Int) := by omega
              have hsP : s = P := by
                rw [HSI.out, List.take_of_length_le (by rw [idsL_len, HL1.out]; exact Nat.le_refl _)]
                exact (shrI_share HSh1.out (by rw [HL1.out]; exact h0)).2
              have hsb : ((s : Int) != (P : Int)) = false := by simp [hsP]
              clear hsP
              go_wp2_with fail
              go_roundw
              case rel => exact ⟨k + 1, Sq, Gq, by omega, by go_num, Aq, HShq, hZq, hbq⟩
              case measure => simp [intOf]; omega
    · obtain rfl : k = N := by omega
      clear KD HS HNl
      go_wp2_with fail
      refine (K7.out _).mono ?_
      rintro e w8 ⟨rfl, h8⟩
      go_wp2_with fail
      go_ret
      exact ⟨rfl, hb.trans (h8.mono hb.size)⟩
end Go.Proofs.Ytocmhmfaehnliaa
