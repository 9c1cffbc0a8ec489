/- The walk of the statement MailOnce of layer 24 (written by gen/mailonce.py). -/
import Derived.Test.YtkechaniaidieaaMlDeeds
import Derived.BigQuiet
namespace Go.Proofs.Ytkechaniaidieaa
open Go.RowKit Vm
set_option linter.unusedVariables false
set_option linter.unusedSimpArgs false

theorem own_far2 {w w' : World} {b1 s1 n1 : Nat} {e1 : TypeId} {v1 v2 : Value} {x1 : List Value} (h1 : w.ownsRow b1 e1 s1 v1 n1 x1) (hf : FarOf w w' v2) (hne : ∀ k, v1.ownBlock = some k → v2.ownBlock ≠ some k) : w'.ownsRow b1 e1 s1 v1 n1 x1 := by
  obtain ⟨hl, hr⟩ := h1
  refine ⟨hl, ?_⟩
  rcases hr with h0 | ⟨g, cap, cur, rfl, hg, hh, r⟩
  · exact .inl h0
  · refine .inr ⟨g, cap, cur, rfl, hg, ?_, r⟩
    rw [hf.2 g ?_ (hne g rfl)]
    · exact hh
    · exact Classical.byContradiction fun h => by rw [Array.getElem?_eq_none (by omega)] at hh; cases hh
theorem MA.farOf {w w' : World} {g b n s1 : Nat} {s : Int} {L : List Pk} {a : Option Addr} {c : Nat} {e : TypeId} {v : Value} {xs : List Value} (h : MA w g s L a c) (hv : w.ownsRow b e s1 v n xs) (hf : FarOf w w' v) (hg : g < b) (hne : 37 ≠ e) : MA w' g s L a c :=
  ⟨(hf.2 g h.1.lt (fun hh => by have := (hv.lt g hh).1; omega)).trans h.1, own_far2 h.2 hf (own_ne h.2 hv hne)⟩
theorem info_i1 : (Try.prog.info? 3).map (fun i => (i.zero, i.size, i.bytes)) = some (some (.int .i64 0), 1, 8) := by kernel_rfl
theorem i_one24 (a : Int) : ∀ u ∈ ([.int .i64 a] : List Value), u.oneCell' = true := fun v hv => by simp at hv; rcases hv with rfl; rfl
theorem i64s_get (l : List Int) (k : Nat) (h : k < l.length) : (i64s l)[k]? = some (.int .i64 (l.getD k 0)) := by
  unfold i64s; simp [List.getD, h]

set_option maxRecDepth 100000 in
set_option maxHeartbeats 16000000 in
theorem mailOnce_law (l : List De) (a : Option Addr) (c : Nat) (w : World) (hl : Sl w w.heap.size a (deCells l)) (hi : ∀ r ∈ l, DeI w r) (hc : (a = none → c = 0) ∧ l.length ≤ c ∧ c ≤ maxLen) :
    Calls Try.prog 4 #[.slice a l.length c] w fun e w' => e = .returned (.bool true) ∧ Below w.heap.size w w' := by
  obtain ⟨i7, hi7, hz70, hz71, hz72⟩ := info_parts info_i1
  obtain ⟨N0, hN0⟩ : ∃ N, l.length = N := ⟨_, rfl⟩
  rw [hN0] at hc ⊢
  have N1 := Lib.hid (mnew_walk w)
  obtain ⟨F, hF⟩ : ∃ F, F = fewL l := ⟨_, rfl⟩
  have HFi := Lib.hid (show ∀ x ∈ F, DeI w x ∧ x.T.length ≤ 300 from by rw [hF]; exact fewL_ok hi)
  have hF80 : F.length ≤ 80 := by rw [hF]; exact fewL_len l
  have KF := Lib.hid (fun (w1 : World) (b : Below w.heap.size w w1) => few_walk l a c N0 w1 hN0 ((hl.below b (Nat.le_refl _)).grow b.size) (fun x hx => ⟨(hi x hx).1, ((hi x hx).2.1.below b (Nat.le_refl _)).grow b.size, (hi x hx).2.2⟩) hc)
  unfold FewPost at KF
  rw [← hF] at KF
  clear hi hl hc hN0 hF
  go_enter Try.func4, Try.ntmps4
  go_wp2_with fail
  refine N1.out.mono ?_
  rintro e w1 ⟨rfl, M1, b1⟩
  have hg1 := M1.1.lt
  go_wp2_with fail
  refine (KF.out _ b1).mono ?_
  rintro e w2 ⟨aF, cF, rfl, OF, b2⟩
  have M2 := Lib.hid (M1.keep b2)
  have B2 := Lib.hid (gtrans b1 b2)
  have HOF := Lib.hid OF
  obtain ⟨m, hm⟩ : ∃ m, F.length = m := ⟨_, rfl⟩
  rw [hm] at hF80
  simp only [hm]
  have HM := Lib.hid hm
  clear N1 KF M1 b2 OF hm
  go_wp2_with fail
  go_loopw [4, 5, 6] (fun T S J wr => ∃ (i : Nat) (s : Int) (L : List Pk) (a3 : Option Addr) (c3 : Nat) (tk : List Int) (a4 : Option Addr) (c4 : Nat), i ≤ m ∧ J = .int .i64 i ∧ S = .int .i64 s ∧ T = .slice a4 tk.length c4 ∧ Hid (InvM s L i) ∧ Hid (InvO s L tk) ∧ tk.length ≤ i ∧ MA wr w.heap.size s L a3 c3 ∧ wr.ownsRow w1.heap.size 32 5 (.slice aF F.length cF) F.length (deCells F) ∧ wr.ownsRow w2.heap.size 3 1 (.slice a4 tk.length c4) tk.length (i64s tk) ∧ Below w.heap.size w wr ∧ w2.heap.size ≤ wr.heap.size) (fun _ _ J _ => m - (intOf J).toNat)
  case atStart => exact ⟨0, 0, [], none, 0, [], none, 0, by omega, rfl, rfl, rfl, Lib.hid ⟨by omega, by omega, by simp, fun y hy => (by cases hy)⟩, Lib.hid ⟨.nil, fun y hy => (by cases hy), fun y hy => (by cases hy)⟩, Nat.le_refl _, M2.out, HOF.out, ⟨rfl, .inl ⟨rfl, rfl⟩⟩, B2.out, Nat.le_refl _⟩
  case round =>
    obtain ⟨i, s, L, a3, c3, tk, a4, c4, him, rfl, rfl, rfl, HI, HO, htk, Mr, OFr, OTr, hb, hzw⟩ := hrel
    have hbz := hb.size
    by_cases hlt : i < m
    · have hlt2 : (i : Int) < (m : Int) := by omega
      have hi0 : 0 ≤ (i : Int) := by omega
      have hil : i < F.length := by rw [HM.out]; exact hlt
      obtain ⟨b2, o2, rfl, hb2, hct⟩ := (ownN_sl OFr).de (by omega)
      obtain ⟨r0, r1, r2, r3, r4⟩ := hct i hil
      have hxm := HFi.out _ (getD_mem F de0 i hil)
      obtain ⟨x, hx⟩ : ∃ x, F.getD i de0 = x := ⟨_, rfl⟩
      rw [hx] at r0 r1 r2 r3 r4 hxm
      obtain ⟨y, ok, s', L', hD⟩ := doesIs_ex s L x
      have tx := hxm.1.2.1.below hb (Nat.le_refl _)
      have hro := Mr.rowown
      have K := Lib.hid (does_walk w.heap.size s L a3 c3 x wr y ok s' L' hD ⟨HI.out.1, by have := HI.out.2.1; omega⟩ HI.out.2.2.1 hxm.2 Mr (tx.grow hbz) (de_apart tx (fun y hy => (hro y hy).2)))
      unfold DPost pkV at K
      have HI2 := Lib.hid (invM_step HI.out hD hxm.2)
      have HS := Lib.hid (invO_step HO.out hD)
      have HO5 := Lib.hid OFr
      have HT5 := Lib.hid OTr
      have HMr := Lib.hid Mr
      clear hct hx hxm hD tx OFr OTr Mr
      go_upto_region 8 with fail
      go_wp2_with fail
      refine K.out.mono ?_
      rintro e w5 ⟨rfl, a5, c5, M5, mv5, ab5, b5⟩
      have OF5 := own_mv HO5.out mv5 hg1 (fun k y hk hy hh => own_ne HO5.out HMr.out.2 (by decide) k hk (by rw [(hro y hy).1, hh]))
      have b6 := hb.trans b5
      clear r0 r1 r2 r3 r4
      have hg2 := M2.out.1.lt
      have OT5 := own_mv HT5.out mv5 hg2 (fun k y hk hy hh => own_ne HT5.out HMr.out.2 (by decide) k hk (by rw [(hro y hy).1, hh]))
      obtain ⟨q, hq⟩ : ∃ q, L'.length = q := ⟨_, rfl⟩
      have HQ := Lib.hid hq
      have hL' : L'.length ≤ 256 := HI2.out.2.2.1
      have hq256 : q ≤ 256 := by rw [← hq]; exact hL'
      obtain ⟨m0, hm0, hs'0, hnew⟩ := HS.out.1
      rw [hq] at hm0 hs'0 hnew
      have HNEW := Lib.hid hnew
      have HS' := Lib.hid hs'0
      have hsb : 0 ≤ s ∧ s ≤ 300 * (i : Int) := ⟨HI.out.1, HI.out.2.1⟩
      clear hnew hs'0 mv5 ab5 HO5 HT5
      go_upto_region 9 with fail
      have hal := balloc w5 (.cells #[.int .i64 y.n, .int .i64 y.d, .int .i64 y.f, .string (str y.x)] 37)
      have P6 := Whole.new w5 37 #[.int .i64 y.n, .int .i64 y.d, .int .i64 y.f, .string (str y.x)]
      have M6 := M5.keep hal
      have OF6 := own_keep OF5 hal
      have OT6 := own_keep OT5 hal
      have b6a := b6.trans (hal.mono b6.size)
      obtain ⟨w6, hw6⟩ : ∃ w6, w6 = w5.alloc (.cells #[.int .i64 y.n, .int .i64 y.d, .int .i64 y.f, .string (str y.x)] 37) := ⟨_, rfl⟩
      rw [← hw6] at hal P6 M6 OF6 OT6 b6a ⊢
      have KL := Lib.hid (mlist_walk w.heap.size s' L' a5 c5 w6 hL' M6)
      rw [hq] at KL
      clear hw6 hal OF5 OT5 M5 hL'
      go_wp2_with fail
      refine KL.out.mono ?_
      rintro e w7 ⟨aw, cw, rfl, OW, b7⟩
      have M7 := M6.keep b7
      have P7 := P6.keep b7
      have OF7 := own_keep OF6 b7
      have OT7 := own_keep OT6 b7
      have b7a := b6a.trans (b7.mono b6a.size)
      have KN := Lib.hid (mlen_walk w.heap.size s' L' a5 c5 w7 M7)
      rw [hq] at KN
      have hq1 : ¬ (256 : Int) < (q : Int) := by omega
      clear KL OF6 OT6 M6 P6 hq
      go_wp2_with fail
      refine KN.out.mono ?_
      rintro e w8 ⟨rfl, b8⟩
      have M8 := M7.keep b8
      have P8 := P7.keep b8
      have OF8 := Lib.hid (own_keep OF7 b8)
      have OT8 := own_keep OT7 b8
      have OW8 := own_keep OW b8
      have b8a := b7a.trans (b8.mono b7a.size)
      have hpl := P8.four.2.2
      have y0 := P8.four.1.1
      have HM8 := Lib.hid M8
      clear KN OF7 OT7 OW M7 P7 M8 P8
      go_wp2_with fail
      go_loopw [5, 10] (fun A J wz => ∃ k : Nat, k ≤ q ∧ J = .int .i64 k ∧ A = .int .i64 (s + ((k - m0 : Nat) : Int)) ∧ Below w8.heap.size w8 wz) (fun _ J _ => q - (intOf J).toNat)
      case atStart => exact ⟨0, by omega, rfl, by simp, Below.refl _ _⟩
      case round =>
        obtain ⟨k, hkq, rfl, rfl, hz⟩ := hrel
        have hzz := hz.size
        by_cases hk : k < q
        · have hk2 : (k : Int) < (q : Int) := by omega
          have hk3 : 0 ≤ (k : Int) := by omega
          obtain ⟨gw, rfl, _, hgwl, _, hcw⟩ := ownN_at OW8 (by omega)
          have ak := hcw _ _ (pkCells_at L' k (by rw [HQ.out]; exact hk)).1
          have ap := hcw _ _ (pkCells_at L' (k - 1) (by rw [HQ.out]; omega)).1
          obtain ⟨zk, hzk⟩ : ∃ zk, (L'.getD k pk0).n = zk := ⟨_, rfl⟩
          obtain ⟨zp, hzp⟩ : ∃ zp, (L'.getD (k - 1) pk0).n = zp := ⟨_, rfl⟩
          have hst := HNEW.out k hk
          have hasc : 0 < k → zp < zk := fun h0 => by rw [← hzk, ← hzp]; exact asc_at HS.out.2.1 k h0 (by rw [HQ.out]; exact hk)
          have hok : ok = true → zk ≠ y.n := fun h => by
            rw [← hzk]
            exact ((HS.out.2.2.2 h).2.2 _ (getD_mem L' pk0 k (by rw [HQ.out]; exact hk)))
          rw [hzk] at ak hst
          rw [hzp] at ap
          obtain ⟨la, hla⟩ : ∃ la, s + ((k - m0 : Nat) : Int) = la := ⟨_, rfl⟩
          have HSt := Lib.hid (show (¬ la < zk ∧ s + ((k + 1 - m0 : Nat) : Int) = la) ∨ (zk = la + 1 ∧ s + ((k + 1 - m0 : Nat) : Int) = zk) by omega)
          have hlab : -1000000 ≤ la ∧ la ≤ 1000000 := by omega
          rw [hla]
          replace ak := (hz.cell (p := ⟨gw, k * 4, none⟩) hgwl).trans ak
          replace ap := (hz.cell (p := ⟨gw, (k - 1) * 4, none⟩) hgwl).trans ap
          have ay := (hz.cell (p := ⟨w5.heap.size, 0, none⟩) hpl).trans y0
          clear hst hcw hla hzk hzp y0
          have hwk : IntKind.i64.wrap ((k : Int) - 1) = ((k - 1 : Nat) : Int) ∨ k = 0 := by
            by_cases h : k = 0
            · exact .inr h
            · refine .inl ?_
              rw [IntWalk.i64_in _ (by omega)]; omega
          have Hwk2 := Lib.hid (show IntKind.i64.wrap ((k : Int) + 1) = ((k + 1 : Nat) : Int) by rw [IntWalk.i64_in _ (by omega)]; omega)
          have Hwl := Lib.hid (show IntKind.i64.wrap (la + 1) = la + 1 from IntWalk.i64_in _ (by omega))
          have hkp : ((k - 1 : Nat) : Int) < (q : Int) := by omega
          have hkp0 : 0 ≤ ((k - 1 : Nat) : Int) := by omega
          rcases Nat.eq_zero_or_pos k with h0 | h0
          · subst h0
            have hq0 : (0 : Int) < (q : Int) := hk2
            replace ak : wr.cell? ⟨gw, 0, none⟩ = some (.int .i64 zk) := by simpa using ak
            clear hwk ap hkp hkp0
            cases ok
            · go_upto_region 15 with fail
              go_wp2_with fail
              go_quiet (fail)
              obtain ⟨wq, hwq⟩ : ∃ wq, wq = wr.drewN nq := ⟨_, rfl⟩
              have aq : wq.cell? ⟨gw, 0, none⟩ = some (.int .i64 zk) := by rw [hwq]; exact ak
              have hzq : Below w8.heap.size w8 wq := by rw [hwq]; exact hz.trans (below_drewN _ _ _)
              rw [← hwq]
              clear hwq ak ay
              rcases HSt.out with ⟨h1, h2⟩ | ⟨h1, h2⟩
              · have h3 : decide (la < zk) = false := by simp; omega
                clear h1
                go_upto_region 14 with fail
                have hwk2 := Hwk2.out
                go_wp2_with fail
                go_roundw
                case rel => exact ⟨0 + 1, by omega, by go_num, by rw [h2], hzq⟩
                case measure => simp [intOf]; omega
              · subst h1
                have h3 : decide (la < la + 1) = true := by simp; omega
                have h4 : (la + 1 != la + 1) = false := by simp
                have hwl := Hwl.out
                go_upto_region 20 with fail
                clear hwl
                have hwk2 := Hwk2.out
                go_wp2_with fail
                go_roundw
                case rel => exact ⟨0 + 1, by omega, by go_num, by rw [h2], hzq⟩
                case measure => simp [intOf]; omega
            · have hzy : (zk == y.n) = false := by have := hok rfl; simpa using this
              go_upto_region 15 with fail
              go_wp2_with fail
              go_quiet (fail)
              obtain ⟨wq, hwq⟩ : ∃ wq, wq = wr.drewN nq := ⟨_, rfl⟩
              have aq : wq.cell? ⟨gw, 0, none⟩ = some (.int .i64 zk) := by rw [hwq]; exact ak
              have hzq : Below w8.heap.size w8 wq := by rw [hwq]; exact hz.trans (below_drewN _ _ _)
              rw [← hwq]
              clear hwq ak ay
              rcases HSt.out with ⟨h1, h2⟩ | ⟨h1, h2⟩
              · have h3 : decide (la < zk) = false := by simp; omega
                clear h1
                go_upto_region 14 with fail
                have hwk2 := Hwk2.out
                go_wp2_with fail
                go_roundw
                case rel => exact ⟨0 + 1, by omega, by go_num, by rw [h2], hzq⟩
                case measure => simp [intOf]; omega
              · subst h1
                have h3 : decide (la < la + 1) = true := by simp; omega
                have h4 : (la + 1 != la + 1) = false := by simp
                have hwl := Hwl.out
                go_upto_region 20 with fail
                clear hwl
                have hwk2 := Hwk2.out
                go_wp2_with fail
                go_roundw
                case rel => exact ⟨0 + 1, by omega, by go_num, by rw [h2], hzq⟩
                case measure => simp [intOf]; omega
          · have hk0 : decide (0 < k) = true := by simp; omega
            replace hwk := hwk.resolve_right (by omega)
            have hzp : decide (zk ≤ zp) = false := by have := hasc h0; simp; omega
            obtain ⟨kp, hkpe⟩ : ∃ kp, k - 1 = kp := ⟨_, rfl⟩
            rw [hkpe] at ap hwk hkp hkp0
            have hok' := hok
            clear hkpe hasc h0 hok
            cases ok
            · go_upto_region 15 with fail
              go_wp2_with fail
              go_quiet (fail)
              obtain ⟨wq, hwq⟩ : ∃ wq, wq = wr.drewN nq := ⟨_, rfl⟩
              have aq : wq.cell? ⟨gw, k * 4, none⟩ = some (.int .i64 zk) := by rw [hwq]; exact ak
              have hzq : Below w8.heap.size w8 wq := by rw [hwq]; exact hz.trans (below_drewN _ _ _)
              rw [← hwq]
              clear hwq ak ay
              rcases HSt.out with ⟨h1, h2⟩ | ⟨h1, h2⟩
              · have h3 : decide (la < zk) = false := by simp; omega
                clear h1
                go_upto_region 14 with fail
                have hwk2 := Hwk2.out
                go_wp2_with fail
                go_roundw
                case rel => exact ⟨k + 1, by omega, by go_num, by rw [h2], hzq⟩
                case measure => simp [intOf]; omega
              · subst h1
                have h3 : decide (la < la + 1) = true := by simp; omega
                have h4 : (la + 1 != la + 1) = false := by simp
                have hwl := Hwl.out
                go_upto_region 20 with fail
                clear hwl
                have hwk2 := Hwk2.out
                go_wp2_with fail
                go_roundw
                case rel => exact ⟨k + 1, by omega, by go_num, by rw [h2], hzq⟩
                case measure => simp [intOf]; omega
            · have hzy : (zk == y.n) = false := by have := hok' rfl; simpa using this
              clear hok'
              go_upto_region 15 with fail
              go_wp2_with fail
              go_quiet (fail)
              obtain ⟨wq, hwq⟩ : ∃ wq, wq = wr.drewN nq := ⟨_, rfl⟩
              have aq : wq.cell? ⟨gw, k * 4, none⟩ = some (.int .i64 zk) := by rw [hwq]; exact ak
              have hzq : Below w8.heap.size w8 wq := by rw [hwq]; exact hz.trans (below_drewN _ _ _)
              rw [← hwq]
              clear hwq ak ay
              rcases HSt.out with ⟨h1, h2⟩ | ⟨h1, h2⟩
              · have h3 : decide (la < zk) = false := by simp; omega
                clear h1
                go_upto_region 14 with fail
                have hwk2 := Hwk2.out
                go_wp2_with fail
                go_roundw
                case rel => exact ⟨k + 1, by omega, by go_num, by rw [h2], hzq⟩
                case measure => simp [intOf]; omega
              · subst h1
                have h3 : decide (la < la + 1) = true := by simp; omega
                have h4 : (la + 1 != la + 1) = false := by simp
                have hwl := Hwl.out
                go_upto_region 20 with fail
                clear hwl
                have hwk2 := Hwk2.out
                go_wp2_with fail
                go_roundw
                case rel => exact ⟨k + 1, by omega, by go_num, by rw [h2], hzq⟩
                case measure => simp [intOf]; omega
        · have hk2 : ¬ (k : Int) < (q : Int) := by omega
          have hkq2 : k = q := by omega
          have hls : s + ((k - m0 : Nat) : Int) = s' := by rw [hkq2]; exact HS'.out.symm
          rw [hls]
          have MZ := Lib.hid (HM8.out.keep hz)
          have OFZ := Lib.hid (own_keep OF8.out hz)
          have OTZ := own_keep OT8 hz
          have bz := b8a.trans (hz.mono b8a.size)
          have yz := (hz.cell (p := ⟨w5.heap.size, 0, none⟩) hpl).trans y0
          have hypl : w5.heap.size < wr.heap.size := by omega
          have hzw2 : w2.heap.size ≤ wr.heap.size := by have := b5.size; omega
          have Hwi := Lib.hid (show IntKind.i64.wrap ((i : Int) + 1) = ((i + 1 : Nat) : Int) by rw [IntWalk.i64_in _ (by omega)]; omega)
          clear hkq2 hls y0 OT8 OW8
          cases ok
          · go_upto_region 7 with fail
            have hwi := Hwi.out
            go_wp2_with fail
            go_roundw
            case rel => exact ⟨i + 1, s', L', a5, c5, tk, a4, c4, by omega, by go_num, rfl, rfl, HI2, Lib.hid (HS.out.2.2.1 rfl), by omega, MZ.out, OFZ.out, OTZ, bz, hzw2⟩
            case measure => simp [intOf]; omega
          · obtain ⟨hO1, hO2, hO3⟩ := HS.out.2.2.2 rfl
            have HO2 := Lib.hid hO1
            have HT2 := Lib.hid hO2
            obtain ⟨n4, hn4⟩ : ∃ n, tk.length = n := ⟨_, rfl⟩
            have HN4 := Lib.hid hn4
            rw [hn4] at OTZ htk ⊢
            obtain ⟨wy, hwy⟩ : ∃ wy : World, wy = wr := ⟨_, rfl⟩
            rw [← hwy] at MZ OFZ OTZ bz yz hypl hzw2 ⊢
            clear hO1 hO2 hO3 hn4 hwy hz hzz HS
            go_wp2_with fail
            go_loopw [11] (fun J wx => ∃ k : Nat, k ≤ n4 ∧ J = .int .i64 k ∧ Below wy.heap.size wy wx) (fun J _ => n4 - (intOf J).toNat)
            case atStart => exact ⟨0, by omega, rfl, Below.refl _ _⟩
            case round =>
              obtain ⟨k4, hk4, rfl, hx⟩ := hrel
              have hxz := hx.size
              by_cases hlt4 : k4 < n4
              · have h1 : (k4 : Int) < (n4 : Int) := by omega
                have h2 : 0 ≤ (k4 : Int) := by omega
                obtain ⟨gt, rfl, _, hgtl, _, hct⟩ := ownN_at OTZ (by omega)
                have at0 := hct k4 _ (i64s_get tk k4 (by rw [HN4.out]; exact hlt4))
                obtain ⟨tv, htv⟩ : ∃ v, tk.getD k4 0 = v := ⟨_, rfl⟩
                have hne : (tv == y.n) = false := by
                  have := HT2.out _ (getD_mem tk 0 k4 (by rw [HN4.out]; exact hlt4))
                  rw [htv] at this; simpa using this
                rw [htv] at at0
                have at1 := (hx.cell (p := ⟨gt, k4, none⟩) hgtl).trans at0
                have ay1 := (hx.cell (p := ⟨w5.heap.size, 0, none⟩) hypl).trans yz
                have Hw4 := Lib.hid (show IntKind.i64.wrap ((k4 : Int) + 1) = ((k4 + 1 : Nat) : Int) by rw [IntWalk.i64_in _ (by omega)]; omega)
                clear hct at0 htv yz
                go_upto_region 25 with fail
                go_quiet (fail)
                go_upto_region 24 with fail
                have hw4 := Hw4.out
                go_wp2_with fail
                go_roundw
                case rel => exact ⟨k4 + 1, by omega, by go_num, hx.trans (below_drewN _ _ _)⟩
                case measure => simp [intOf]; omega
              · have h1 : ¬ (k4 : Int) < (n4 : Int) := by omega
                have ay1 := (hx.cell (p := ⟨w5.heap.size, 0, none⟩) hypl).trans yz
                have OT9 := own_keep OTZ hx
                have b9 := bz.trans (hx.mono bz.size)
                have hal := balloc wr (.cells #[.int .i64 y.n] 3)
                have HO9 := Lib.hid (OT9.alloc (.cells #[.int .i64 y.n] 3))
                have HB9 := Lib.hid (gtrans b9 hal)
                have HM9 := Lib.hid ((MZ.out.keep hx).keep hal)
                have HF9 := Lib.hid ((own_keep OFZ.out hx).alloc (.cells #[.int .i64 y.n] 3))
                have hz9 := hal.size
                have h29 : w2.heap.size ≤ (wr.alloc (.cells #[.int .i64 y.n] 3)).heap.size := by omega
                have HB2z := B2.out.size
                clear OTZ OT9 b9 hal yz
                go_upto_region 27 with fail
                go_wp2_with (at_builtin; refine wp_app2 rfl _ _ 49 rfl w2.heap.size 3 i7 (.int .i64 0) 1 8 Try.underlying49 hi7 hz70 hz71 hz72 rfl (by decide) _ _ _ rfl HO9.out _ _ _ rfl [.int .i64 y.n] _ _ rfl (sl_fresh _ [.int .i64 y.n] 3) (fun h => by cases h) (i_one24 _) ?da ?db h29 (Below.refl _ _) ?_)
                case da => unfold maxLen; omega
                case db => omega
                intro a7 c7 w10 o10 b10 f10
                have M10 := HM9.out.farOf HO9.out f10 hg2 (by decide)
                have F10 := own_far2 HF9.out f10 (own_ne HF9.out HO9.out (by decide))
                have B10 := HB9.out.trans (b10.mono HB2z)
                have hz10 := b10.size
                clear f10 HO9 HB9 HM9 HF9
                go_upto_region 7 with fail
                have hwi := Hwi.out
                go_wp2_with fail
                go_roundw
                case rel => exact ⟨i + 1, s', L', a5, c5, tk ++ [y.n], a7, c7, by omega, by go_num, rfl, by rw [List.length_append, HN4.out]; rfl, HI2, HO2, by rw [List.length_append, HN4.out]; simp; omega, M10, F10, by rw [List.length_append, HN4.out]; unfold i64s; rw [List.map_append]; exact o10, B10, by omega⟩
                case measure => simp [intOf]; omega
    · have hlt2 : ¬ (i : Int) < (m : Int) := by omega
      go_wp2_with fail
      refine (awake24_walk _).mono ?_
      rintro e w8 ⟨rfl, b8⟩
      go_wp2_with fail
      go_ret
      exact ⟨rfl, gtrans hb b8⟩
end Go.Proofs.Ytkechaniaidieaa
