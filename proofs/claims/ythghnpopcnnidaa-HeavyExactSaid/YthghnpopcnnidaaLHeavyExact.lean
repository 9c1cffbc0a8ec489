/- The walk of headgatelaw30.HeavyExact. -/
import Derived.Test.YthghnpopcnnidaaHvTell
namespace Go.Proofs.Ythghnpopcnnidaa
open Go.RowKit Vm
set_option linter.unusedVariables false
set_option linter.unusedSimpArgs false

theorem info_i64e : (Try.prog.info? 3).map (fun i => (i.zero, i.size, i.bytes)) = some (some (.int .i64 0), 1, 8) := by kernel_rfl
theorem mask15 (x : Int) : ∃ y : Int, bits .and .i64 x 15 = y ∧ 0 ≤ y ∧ y ≤ 15 := by
  refine ⟨_, rfl, ?_⟩
  have h2 : (BitVec.ofInt 64 (15 : Int)).toNat = 15 := by decide
  have h3 : (BitVec.ofInt 64 x &&& BitVec.ofInt 64 (15 : Int)).toNat ≤ 15 := by
    rw [BitVec.toNat_and, h2]; exact Nat.and_le_right
  have e : bits .and .i64 x 15 = IntKind.i64.wrap ((BitVec.ofInt 64 x &&& BitVec.ofInt 64 (15 : Int)).toNat : Int) := rfl
  rw [e, IntKind.wrap_i64]
  omega
def In16 (x : Int) : Prop := 0 ≤ x ∧ x ≤ 15
theorem pigeon16 {l : List Int} (h : l.Nodup) (hi : ∀ x ∈ l, In16 x) : l.length ≤ 16 := by
  have := List.Nodup.length_le_of_subset (l₂ := (List.range 16).map fun i : Nat => (i : Int)) h (fun x hx => by
    obtain ⟨h1, h2⟩ := hi x hx
    exact List.mem_map.2 ⟨x.toNat, List.mem_range.2 (by omega), by omega⟩)
  rwa [List.length_map, List.length_range] at this
theorem hasK_set {L : List Ta} {i : Nat} {v : Ta} (hi : i < L.length) (h : v.k = (L.getD i ta0).k) (x : Int) : hasK (L.set i v) x = hasK L x := by
  have e : ∀ M : List Ta, hasK M x = (M.map Ta.k).any (· == x) := fun M => by unfold hasK; rw [List.any_map]; rfl
  rw [e, e, map_set_same hi h]
/-- No more kinds than may be counted: all is exact. -/
def Ex16 (L : List Ta) (xs : List Int) : Prop := (∀ t ∈ L, t.o = 0 ∧ In16 t.k) ∧ ∀ x ∈ xs, hasK L x = true
theorem ex16 {l : List Int} (h : ∀ x ∈ l, In16 x) : ∀ i, i ≤ l.length → Ex16 (addTo (newH 16) l i).L (l.take i)
  | 0, _ => ⟨by simp [addTo, newH], by simp⟩
  | i + 1, hi => by
    obtain ⟨h1, h2⟩ := ex16 h i (by omega)
    have hok := addTo_ok (l := l) (newH_ok (m := 16) (by omega) (by omega)) i
    have hm : (addTo (newH 16) l i).m = 16 := addTo_m _ _ _
    have hx : In16 (l.getD i 0) := h _ (by rw [show l.getD i 0 = l[i]'(by omega) from by simp [List.getD, show i < l.length by omega]]; exact List.getElem_mem _)
    have htk : l.take (i + 1) = l.take i ++ [l.getD i 0] := take_get l 0 i (by omega)
    have hnd := hok.nd
    rw [htk]
    show Ex16 (tally (addTo (newH 16) l i).m (addTo (newH 16) l i).L (l.getD i 0)) _
    generalize addTo (newH 16) l i = H at *
    generalize l.getD i 0 = x at *
    rw [hm]
    unfold tally
    by_cases hh : hasK H.L x = true
    · rw [if_pos hh]
      obtain ⟨h3, h4⟩ := idxK_lt hh
      refine ⟨fun t ht => ?_, fun y hy => ?_⟩
      · rcases mem_setT ht with rfl | ht
        · have := h1 _ (getD_memT h3); exact this
        · exact h1 t ht
      · rw [hasK_set (v := incT (H.L.getD (idxK H.L x) ta0)) h3 rfl y]
        rcases List.mem_append.1 hy with hy | hy
        · exact h2 y hy
        · obtain rfl := List.mem_singleton.1 hy; exact hh
    · rw [if_neg hh]
      by_cases hl : H.L.length < 16
      · rw [if_pos hl]
        refine ⟨fun t ht => ?_, fun y hy => ?_⟩
        · rcases List.mem_append.1 ht with ht | ht
          · exact h1 t ht
          · obtain rfl := List.mem_singleton.1 ht; exact ⟨rfl, hx⟩
        · rcases List.mem_append.1 hy with hy | hy
          · obtain ⟨t, ht, he⟩ := hasK_mem.1 (h2 y hy)
            exact hasK_mem.2 ⟨t, List.mem_append_left _ ht, he⟩
          · obtain rfl := List.mem_singleton.1 hy
            exact hasK_mem.2 ⟨_, List.mem_append_right _ (List.mem_singleton.2 rfl), rfl⟩
      · exfalso
        have hp := pigeon16 (l := x :: H.L.map Ta.k) (List.nodup_cons.2 ⟨fun hm => by
          obtain ⟨t, ht, he⟩ := List.mem_map.1 hm
          exact hh (hasK_mem.2 ⟨t, ht, he⟩), hnd⟩) (fun y hy => by
          rcases List.mem_cons.1 hy with rfl | hy
          · exact hx
          · obtain ⟨t, ht, rfl⟩ := List.mem_map.1 hy
            exact (h1 t ht).2)
        rw [List.length_cons, List.length_map] at hp
        omega
theorem exact16 {H : Hv} {K : Nat} {xs : List Int} (hok : HOk H K) (hs : Str H xs) (hm : H.m = 16) (he : Ex16 H.L xs) (x : Int) :
    loH H.L x = (cntX xs x : Int) ∧ (hiH H.m H.L x = (cntX xs x : Int) ∨ (¬ hiH H.m H.L x = (cntX xs x : Int) ∧ H.L.length = 16)) ∧ (cntX xs x : Int) ≤ hiH H.m H.L x := by
  have hte := (tells hok hs x).2
  refine ⟨?_, ?_, hte⟩
  · unfold loH
    by_cases hh : hasK H.L x = true
    · rw [if_pos hh]
      obtain ⟨h3, h4⟩ := idxK_lt hh
      have ho := (he.1 _ (getD_memT h3)).1
      have hb := hs.bd _ h3
      rw [h4] at hb
      omega
    · rw [if_neg hh]
      have : cntX xs x = 0 := List.count_eq_zero.2 fun hx => hh (he.2 x hx)
      omega
  · by_cases e : hiH H.m H.L x = (cntX xs x : Int)
    · exact .inl e
    · refine .inr ⟨e, ?_⟩
      have hl := hok.len
      apply Decidable.byContradiction
      intro hne
      apply e
      unfold hiH
      by_cases hh : hasK H.L x = true
      · rw [if_pos hh]
        obtain ⟨h3, h4⟩ := idxK_lt hh
        have ho := (he.1 _ (getD_memT h3)).1
        have hb := hs.bd _ h3
        rw [h4] at hb
        omega
      · rw [if_neg hh, if_pos (by omega), (hs.nx x (by simpa using hh)).2 (by omega)]
        rfl
def fewOf (xs : List Int) : List Int := xs.map fun x => bits .and .i64 x 15
theorem fewOf_take (xs : List Int) (k : Nat) (h : k < xs.length) : fewOf (xs.take (k + 1)) = fewOf (xs.take k) ++ [bits .and .i64 (xs.getD k 0) 15] := by
  unfold fewOf
  rw [take_get xs 0 k h, List.map_append]; rfl
theorem fewOf_in (xs : List Int) : ∀ x ∈ fewOf xs, In16 x := fun x hx => by
  obtain ⟨y, _, rfl⟩ := List.mem_map.1 hx
  obtain ⟨z, h1, h2, h3⟩ := mask15 y
  rw [h1]; exact ⟨h2, h3⟩
set_option maxRecDepth 100000 in
set_option maxHeartbeats 8000000 in
theorem heavyExact_law (a : Option Addr) (len cap : Nat) (zs : List Int) (w : World) (hr : IsRow .i64 w a len cap zs) (hcap : cap * 8 ≤ 140737488351232) :
    Calls Try.prog 7 #[.slice a len cap] w fun e w' => e = .returned (.bool true) ∧ Below w.heap.size w w' := by
  obtain ⟨xs, hxl, hsx, hbx, hl63, hlc⟩ := row400 hr
  have KSo := Lib.hid (some30_walk a len cap w hl63 hlc)
  have K7 := Lib.hid (fun w => awake30_walk w)
  obtain ⟨N, hN⟩ : ∃ N, min len 400 = N := ⟨_, rfl⟩
  rw [hN] at hxl KSo
  have hN4 : N ≤ 400 := by omega
  have HN := Lib.hid hxl
  have HS := Lib.hid hsx
  have KN := newH_walk 16 w (by decide) (by decide)
  unfold NewHQ at KN
  have KNw := Lib.hid KN
  have HF := Lib.hid (show fewOf (xs.take N) = fewOf xs from by rw [List.take_of_length_le (by omega)])
  obtain ⟨fs, hfs⟩ : ∃ fs, fewOf xs = fs := ⟨_, rfl⟩
  have hfl : fs.length = N := by rw [← hfs]; unfold fewOf; rw [List.length_map, hxl]
  have hfi : ∀ x ∈ fs, In16 x := by rw [← hfs]; exact fewOf_in xs
  have HFs := Lib.hid (show fewOf (xs.take N) = fs from by rw [HF.out, hfs])
  have HFl := Lib.hid hfl
  have HSt := Lib.hid (str_made 16 (by decide) (by decide) fs)
  have HNk := Lib.hid (newH_ok (m := 16) (by decide) (by decide))
  have HOK := Lib.hid ((addTo_ok (l := fs) HNk.out fs.length).more (show 0 + fs.length ≤ 400 by omega))
  have HEx := Lib.hid (ex16 hfi fs.length (Nat.le_refl _))
  rw [List.take_of_length_le (Nat.le_refl _)] at HEx
  have HMm := Lib.hid (addTo_m (newH 16) fs fs.length)
  have KA := Lib.hid (fun g S w al cl hl h => add_ha 0 fs N al cl (newH 16) g S w hfl (by omega) HNk.out hl h)
  unfold HQ at KA
  rw [hfl] at HSt HOK HEx HMm
  obtain ⟨H, hH⟩ : ∃ H, addTo (newH 16) fs N = H := ⟨_, rfl⟩
  rw [hH] at HSt HOK HEx HMm KA
  have HH16 := Lib.hid (show H.m = 16 from HMm.out)
  obtain ⟨G0, hG0⟩ : ∃ G0, newH 16 = G0 := ⟨_, rfl⟩
  rw [hG0] at KNw KA
  have KC := Lib.hid (fun g S w x h => cnt_ha 400 x H g S w (by omega) HOK.out h)
  have HE := Lib.hid (fun x => exact16 HOK.out HSt.out HH16.out HEx.out x)
  have KT := Lib.hid (fun g S w h (hD : H.L.length = 16) => (by have := top_ha 16 400 H g S w (by omega) (by omega) HOK.out h; rw [hD] at this; exact this : Calls Try.prog 19 #[.pointer (some ⟨g, 0, none⟩), .int .i64 16] w (RowQ S 16 (taCells ((topL H.L).take 16)) w)))
  unfold RowQ at KT
  obtain ⟨i0, hi, hz0, hz1, hz2⟩ := info_parts info_i64e
  clear hr hcap hxl hsx hbx hl63 hlc KN hfs hfl hfi hH hG0 HF HMm HNk hN
  go_enter Try.func7, Try.ntmps7
  go_wp2_with fail
  refine KSo.out.mono ?_
  rintro e w' ⟨rfl, hww⟩
  subst hww
  clear KSo
  go_wp2_with fail
  refine KNw.out.mono ?_
  rintro e w0 ⟨g, S, rfl, A0, hZ, b0⟩
  have A0 := Lib.hid A0
  clear KNw
  go_wp2_with fail
  go_loopw [5, 6] (fun R I wr => ∃ k : Nat, k ≤ N ∧ I = .int .i64 k ∧ wr.ownsRow w0.heap.size 3 1 R k (i64s (fewOf (xs.take k))) ∧ Below w0.heap.size w0 wr) (fun _ I _ => N - (intOf I).toNat)
  case atStart => exact ⟨0, by omega, rfl, by simpa [i64s, fewOf] using World.ownsRow_nil _ _ _ _, Below.refl _ _⟩
  case round =>
    obtain ⟨k, hk, rfl, hown, hb⟩ := hrel
    by_cases hlt : k < N
    · have hil : k < xs.length := by rw [HN.out]; exact hlt
      have hlt2 : (k : Int) < (N : Int) := by omega
      have hk0 : 0 ≤ (k : Int) := by omega
      have Bk := b0.trans (hb.mono b0.size)
      obtain ⟨b1, o1, rfl, hb1, hc⟩ := (HS.out.below Bk (Nat.le_refl _)).intsH (by omega)
      have r0 := hc k hil
      have HT := Lib.hid (fewOf_take xs k hil)
      obtain ⟨x, hx⟩ : ∃ x, xs.getD k 0 = x := ⟨_, rfl⟩
      rw [hx] at r0 HT
      obtain ⟨v, hv, _, _⟩ := mask15 x
      rw [hv] at HT
      have hz1s : b1 < wr.heap.size := by have := Bk.size; omega
      clear hc hx
      go_wp2_with (at_builtin; refine wpList_append_own _ rfl _ _ 22 rfl w0.heap.size 3 i0 (.int .i64 0) 1 8 Try.underlying22 hi hz0 hz1 hz2 rfl (by decide) _ _ _ rfl (hown.alloc _) ⟨wr.heap.size, 0, none⟩ 1 1 [.int .i64 v] rfl rfl ?c1 ?c2 ?c3 ?c4 ?c5 ?_)
      case c1 =>
        intro j u hj
        match j, hj with
        | 0, hj => simp at hj; subst hj; simp [Addr.add]
      case c2 => intro u hu; simp at hu; subst hu; rfl
      case c3 => unfold maxLen; omega
      case c4 => omega
      case c5 => exact Nat.le_trans hb.size (by simp)
      intro v' w3 hown' hgrow _
      have hb3 := (hb.alloc hb.size _).grown hgrow (by have := hb.size; simp; omega) (fun k hk => (hown.lt k hk).1)
      have hown3 : w3.ownsRow w0.heap.size 3 1 v' (k + 1) (i64s (fewOf (xs.take (k + 1)))) := by
        rw [HT.out, i64s_snoc]; simpa using hown'
      clear hown' hgrow hown r0 hv
      go_wp2_with fail
      go_roundw
      case rel => exact ⟨k + 1, by omega, by go_num, hown3, hb3⟩
      case measure => simp [intOf]; omega
    · obtain rfl : k = N := by omega
      obtain ⟨a6, c6, rfl⟩ := ownN_shape hown
      rw [HFs.out] at hown
      have B1 := b0.trans (hb.mono b0.size)
      have A1 := A0.out.keep hb
      have hlv := A0.out.live
      have Q1 : Apt wr S a6 (i64s fs) := ⟨ownN_sl hown, fun x hx => by have := own_low hown x hx; exact ⟨fun hS => by have := hlv _ hS; omega, this.2⟩⟩
      have KA1 := Lib.hid (KA.out g S wr a6 c6 Q1 A1)
      have Q1 := Lib.hid Q1
      clear KA hown A1 hlv
      go_wp2_with fail
      refine KA1.out.mono ?_
      rintro e w1 ⟨rfl, S1, A1, M1⟩
      have Q2 := Lib.hid (Q1.out.mvs M1)
      have B2 := Lib.hid (B1.trans (M1.low hZ.out B1.size))
      have A2 := Lib.hid A1
      have hz3 := B2.out.size
      clear KA1 A1 M1 Q1 B1 hb b0 A0
      go_wp2_with fail
      go_loopw [7] (fun I wr => ∃ j : Nat, j ≤ 18 ∧ I = .int .i64 ((j : Int) - 1) ∧ Below w1.heap.size w1 wr) (fun I _ => 18 - (intOf I + 1).toNat)
      case atStart => exact ⟨0, by omega, rfl, Below.refl _ _⟩
      case round =>
        obtain ⟨j, hj, rfl, hbj⟩ := hrel
        by_cases hlj : j < 18
        · have hlj2 : (j : Int) - 1 ≤ 16 := by omega
          have KC1 := Lib.hid (KC.out g S1 wr ((j : Int) - 1) (A2.out.keep hbj))
          obtain ⟨e1, e2, e3⟩ := HE.out ((j : Int) - 1)
          rw [e1] at KC1
          obtain ⟨q, hq⟩ : ∃ q, cntX fs ((j : Int) - 1) = q := ⟨_, rfl⟩
          rw [hq] at KC1 e2 e3
          obtain ⟨y, hy⟩ : ∃ y, hiH H.m H.L ((j : Int) - 1) = y := ⟨_, rfl⟩
          rw [hy] at KC1 e2 e3
          have Hq := Lib.hid hq
          have hkw : IntKind.i64.wrap ((j : Int) - 1 + 1) = ((j + 1 : Nat) : Int) - 1 := by rw [IntWalk.i64_in _ (by omega)]; omega
          have HKw := Lib.hid hkw
          have g3 : ((q : Int) != (q : Int)) = false := by simp
          have g4 : ¬ y < (q : Int) := by omega
          clear e1 hq hy hkw e3
          go_wp2_with fail
          refine KC1.out.mono ?_
          rintro e w5 ⟨rfl, b5⟩
          have hb5 := gtrans hbj b5
          have KX := Lib.hid (times_walk fs k ((j : Int) - 1) a6 c6 w5.heap.size w5 HFl.out (by omega) (Q2.out.keep hb5).1 (Nat.le_refl _))
          rw [Hq.out] at KX
          clear KC1 b5
          go_wp2_with fail
          refine KX.out.mono ?_
          rintro e w6 ⟨rfl, hw6⟩
          subst hw6
          clear KX
          rcases e2 with rfl | ⟨hne, hD⟩
          · have hkw := HKw.out
            go_wp2_with fail
            go_roundw
            case rel => exact ⟨j + 1, by omega, by go_num, hb5⟩
            case measure => simp [intOf]; omega
          · have g5 : (y == (q : Int)) = false := beq_eq_false_iff_ne.2 hne
            have KT1 := Lib.hid (KT.out g S1 w6 (A2.out.keep hb5) hD)
            have hkw := HKw.out
            go_wp2_with fail
            refine KT1.out.mono ?_
            rintro e w7 ⟨a7, c7, rfl, _, b7⟩
            have hb7 := gtrans hb5 b7
            clear KT1 b7
            go_wp2_with fail
            go_roundw
            case rel => exact ⟨j + 1, by omega, by go_num, hb7⟩
            case measure => simp [intOf]; omega
        · obtain rfl : j = 18 := by omega
          go_wp2_with fail
          refine (K7.out _).mono ?_
          rintro e w12 ⟨rfl, h12⟩
          have hfin := (B2.out.trans (hbj.mono hz3)).trans (h12.mono (Nat.le_trans hz3 hbj.size))
          go_wp2_with fail
          go_ret
          exact ⟨rfl, hfin⟩
end Go.Proofs.Ythghnpopcnnidaa
