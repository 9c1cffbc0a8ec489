/- The walk of headgateref36.Take. -/
import Derived.Test.YtbhbilmpkgcmeaaQuRef
import Derived.Test.YtbhbilmpkgcmeaaQuHas
import Derived.Test.YtbhbilmpkgcmeaaQuTake
import Derived.Test.YtbhbilmpkgcmeaaApp
import Derived.Test.YtbhbilmpkgcmeaaWhole
import Derived.Test.YtbhbilmpkgcmeaaSt3
namespace Go.Proofs.Ytbhbilmpkgcmeaa
open Go.RowKit Vm
set_option linter.unusedVariables false

set_option maxRecDepth 100000 in
set_option maxHeartbeats 4000000 in
theorem rtake_bad (t m : Int) (l : List Ac) (N : Nat) (a : Option Addr) (c B : Nat) (who n now : Int) (w : World) (hN : l.length = N) (hg : ¬ GoodQ t m l who n now) (h : Sl w B a (acCells l)) (hB : B ≤ w.heap.size) :
    Calls Try.prog 38 #[.agg #[.int .i64 t, .int .i64 m], .slice a N c, .int .i64 who, .int .i64 n, .int .i64 now] w (QPost w [] 0 1) := by
  have hal : Below w.heap.size w (w.alloc (.cells #[.int .i64 t, .int .i64 m] 60)) := balloc _ _
  have h' := h.below hal hB
  have hB' : B ≤ (w.alloc (.cells #[.int .i64 t, .int .i64 m] 60)).heap.size := by simp; omega
  by_cases hr : ¬ RightQ t m l now
  · have HV := Lib.hid (rright_walk t m l N a c B now _ false hN (.inr ⟨hr, rfl⟩) h' hB')
    clear hr hg h'
    go_enter Try.func38, Try.ntmps38
    go_wp2_with fail
    refine HV.out.mono ?_
    rintro e w1 ⟨rfl, g1⟩
    go_wp2_with fail
    go_ret3
    exact ⟨none, 0, rfl, .inl rfl, gtrans hal g1, fun _ => rfl, Nat.le_refl _⟩
  have hr := Classical.not_not.1 hr
  have HV := Lib.hid (rright_walk t m l N a c B now _ true hN (.inl ⟨hr, rfl⟩) h' hB')
  have hc : who < 0 ∨ (¬ who < 0 ∧ 1099511627776 < who) ∨ (¬ who < 0 ∧ ¬ 1099511627776 < who ∧ n < 0) := by
    by_cases h1 : who < 0
    · exact .inl h1
    · by_cases h2 : 1099511627776 < who
      · exact .inr (.inl ⟨h1, h2⟩)
      · refine .inr (.inr ⟨h1, h2, ?_⟩)
        apply Classical.byContradiction
        intro hc
        exact hg ⟨hr, by omega, by omega⟩
  clear hr hg h'
  rcases hc with c1 | ⟨c1, c2⟩ | ⟨c1, c2, c3⟩
  all_goals
    go_enter Try.func38, Try.ntmps38
    go_wp2_with fail
    refine HV.out.mono ?_
    rintro e w1 ⟨rfl, g1⟩
    go_wp2_with fail
    go_ret3
    exact ⟨none, 0, rfl, .inl rfl, gtrans hal g1, fun _ => rfl, Nat.le_refl _⟩

theorem qend_ac {w w8 : World} {base n c8 : Nat} {a8 : Option Addr} {D : List Ac} {V W E : Int} {xs : List Value} (own8 : w8.ownsRow base 102 3 (.slice a8 n c8) n xs) (hx : xs = acCells D) (hn : n = D.length) (hV : V = W) (hb : Below w.heap.size w w8) :
    QPost w D W E (.returned (.tuple #[.slice a8 n c8, .int .i64 V, .int .i64 E])) w8 := by
  subst hx hn hV
  have hc := ownN_cap own8
  exact ⟨a8, c8, rfl, ownN_sl own8, hb, hc.1, hc.2⟩
theorem setRow3 (w : World) (g : Nat) (t : TypeId) (a b c x y z : Value) (h : Whole w g t #[a, b, c]) : Whole (((w.setCell ⟨g, 0, none⟩ x).setCell ⟨g, 1, none⟩ y).setCell ⟨g, 2, none⟩ z) g t #[x, y, z] := by
  have h1 := h.set 0 x
  have h2 := h1.set 1 y
  have h3 := h2.set 2 z
  simpa using h3

set_option maxRecDepth 100000 in
set_option maxHeartbeats 4000000 in
theorem rtake_yes (t m : Int) (l : List Ac) (N : Nat) (a : Option Addr) (c B : Nat) (who n now : Int) (w : World) (D : List Ac) (W E : Int) (hN : l.length = N) (hg : GoodQ t m l who n now) (hT : TkIs t m l who n now D W E) (h : Sl w B a (acCells l)) (hB : B ≤ w.heap.size) (hac : (a = none → c = 0) ∧ N ≤ c) :
    Calls Try.prog 38 #[.agg #[.int .i64 t, .int .i64 m], .slice a N c, .int .i64 who, .int .i64 n, .int .i64 now] w (QPost w D W E) := by
  have hal : Below w.heap.size w (w.alloc (.cells #[.int .i64 t, .int .i64 m] 60)) := balloc _ _
  have h' := h.below hal hB
  have hB' : B ≤ (w.alloc (.cells #[.int .i64 t, .int .i64 m] 60)).heap.size := by simp; omega
  have hal2 : w.heap.size + 1 ≤ (w.alloc (.cells #[.int .i64 t, .int .i64 m] 60)).heap.size := by simp
  have HV := Lib.hid (rright_walk t m l N a c B now _ true hN (.inl ⟨hg.1, rfl⟩) h' hB')
  have c0 : ∀ w1, Below (w.heap.size + 1) (w.alloc (.cells #[.int .i64 t, .int .i64 m] 60)) w1 → w1.cell? ⟨w.heap.size, 0, none⟩ = some (.int .i64 t) ∧ w1.cell? ⟨w.heap.size, 1, none⟩ = some (.int .i64 m) := fun w1 g => by
    refine ⟨?_, ?_⟩ <;> (rw [g.cell (by simp), World.cell?_alloc_at _ _ _ _ rfl]; rfl)
  have C0 := Lib.hid c0
  have hn0 : ¬ n < 0 := by have := hg.2.2; omega
  have hw0 : ¬ who < 0 := by have := hg.2.1; omega
  have hw1 : ¬ 1099511627776 < who := by have := hg.2.1; omega
  clear c0
  by_cases hmn : m < n
  · obtain ⟨rfl, rfl, rfl⟩ : D = [] ∧ W = 0 ∧ E = 6 := by
      rcases hT with ⟨h1, _⟩ | ⟨_, _, h2⟩ | ⟨_, h1, _⟩ | ⟨_, h1, _⟩ | ⟨_, h1, _⟩ | ⟨_, h1, _⟩
      · exact absurd hg h1
      · exact h2
      all_goals omega
    clear hg hT
    go_enter Try.func38, Try.ntmps38
    go_wp2_with fail
    refine HV.out.mono ?_
    rintro e w1 ⟨rfl, g1⟩
    obtain ⟨d0, d1⟩ := C0.out _ (g1.mono hal2)
    go_wp2_with fail
    go_ret3
    exact ⟨none, 0, rfl, .inl rfl, gtrans hal g1, fun _ => rfl, Nat.le_refl _⟩
  have hN64 : N ≤ 64 := by have := hg.1.2.2.1; omega
  have HG := Lib.hid hg
  have HT := Lib.hid hT
  have HNe := Lib.hid hN
  have HAC := Lib.hid hac
  clear hT hg hN hac
  obtain ⟨i0, hi, hz0, hz1, hz2⟩ := info_parts info_ac
  go_enter Try.func38, Try.ntmps38
  go_wp2_with fail
  refine HV.out.mono ?_
  rintro e w1 ⟨rfl, g1⟩
  have q1 := g1.mono hal2
  obtain ⟨d0, d1⟩ := C0.out _ q1
  have s1 := h'.below g1 hB'
  have hB1 := Nat.le_trans hB' g1.size
  have hz1w : w.heap.size + 1 ≤ w1.heap.size := Nat.le_trans hal2 g1.size
  clear HV h' hB'
  have hwA0 := balloc w1 (.cells #[.int .i64 who, .int .i64 m, .int .i64 now] 102)
  have hWh := Whole.new w1 102 #[.int .i64 who, .int .i64 m, .int .i64 now]
  have hzA : w1.heap.size < (w1.alloc (.cells #[.int .i64 who, .int .i64 m, .int .i64 now] 102)).heap.size := by simp
  go_wp2_with fail
  obtain ⟨wA, hwA⟩ : ∃ wA, wA = w1.alloc (.cells #[.int .i64 who, .int .i64 m, .int .i64 now] 102) := ⟨_, rfl⟩
  rw [← hwA] at hwA0 hWh hzA ⊢
  have sA := s1.below hwA0 hB1
  have qA := q1.trans (hwA0.mono hz1w)
  have HW := Lib.hid (gtrans (gtrans hal g1) hwA0)
  have HZ0 := Lib.hid (show w.heap.size ≤ wA.heap.size by omega)
  clear hwA s1 q1 d0 d1 hwA0 g1 hal
  go_loopw [14, 15] (fun O I wr => ∃ (k : Nat) (a3 : Option Addr) (c3 : Nat), k ≤ N ∧ I = .int .i64 k ∧ O = .slice a3 k c3 ∧ Hid (∀ p, p < k → acKey (l.getD p ac0) < who) ∧ wr.ownsRow wA.heap.size 102 3 (.slice a3 k c3) k (acCells (l.take k)) ∧ Below wA.heap.size wA wr) (fun _ I _ => N - (intOf I).toNat)
  case atStart => exact ⟨0, none, 0, by omega, rfl, rfl, Lib.hid (fun p hp => by omega), World.ownsRow_nil _ _ _ _, Below.refl _ _⟩
  case round =>
    obtain ⟨k, a3, c3, hk, rfl, rfl, HL, hown, hbw⟩ := hrel
    have hqr := qA.trans (hbw.mono (by omega))
    have hWr := hWh.keep hbw
    have hbz := hbw.size
    obtain ⟨d0, d1⟩ := C0.out _ hqr
    have HSL := Lib.hid (fun w7 (h7 : Below wA.heap.size wA w7) => (sA.below h7 (by omega) : Sl w7 B a (acCells l)))
    have hasc := Lib.hid (rightQ_asc HG.out.1)
    by_cases hkN : k < N
    · have hil : k < l.length := by rw [HNe.out]; exact hkN
      obtain ⟨b1, o1, rfl, hb1, hc⟩ := (sA.below hbw (by omega)).ac (by omega)
      obtain ⟨r0, r1, r2⟩ := hc k hil
      have hz1' : b1 < wr.heap.size := by omega
      have htk := Lib.hid (take_get l ac0 k hil)
      have hOKx := HG.out.1.2.2.2 k hil
      unfold OkQ at hOKx
      obtain ⟨x, hx⟩ : ∃ x, l.getD k ac0 = x := ⟨_, rfl⟩
      simp only [hx] at r0 r1 r2 htk hOKx
      have HX := Lib.hid hx
      clear hx hc
      by_cases hlt : x.o < who
      · have HOw := Lib.hid (hown.alloc (.cells #[.int .i64 x.o, .int .i64 x.l, .int .i64 x.s] 102))
        have HBw := Lib.hid (hbw.alloc hbz (.cells #[.int .i64 x.o, .int .i64 x.l, .int .i64 x.s] 102))
        clear hown hOKx hWr hWh
        go_wp2_with (at_builtin; refine wp_app rfl _ _ 61 rfl wA.heap.size 102 i0 (.agg #[.int .i64 0, .int .i64 0, .int .i64 0]) 3 24 Try.underlying61 hi hz0 hz1 hz2 rfl (by decide) _ _ _ rfl HOw.out _ _ _ rfl [.int .i64 x.o, .int .i64 x.l, .int .i64 x.s] _ wA rfl (sl_fresh _ [.int .i64 x.o, .int .i64 x.l, .int .i64 x.s] 102) (fun h => by cases h) (ac_one x) ?c1 ?c2 ?c3 HBw.out ?_)
        case c1 => unfold maxLen; omega
        case c2 => omega
        case c3 => simp; omega
        intro a4 c4 w4 own4 b4
        have own5 : w4.ownsRow wA.heap.size 102 3 (.slice a4 (k + 1) c4) (k + 1) (acCells (l.take (k + 1))) := by
          rw [htk.out, acCells_snoc]; exact own4
        clear own4
        go_wp2_with fail
        go_roundw
        case rel => exact ⟨k + 1, a4, c4, by omega, by go_num, rfl, Lib.hid (fun p hp => by rcases Nat.lt_or_ge p k with h1 | h1; exact HL.out p h1; rw [show p = k from by omega, HX.out]; exact hlt), own5, b4⟩
        case measure => simp [intOf]; omega
      · have hAt := Lib.hid (atR_of acKey ac0 hasc.out (by omega) HL.out (fun _ => by rw [HX.out]; unfold acKey; omega))
        by_cases he : x.o = who
        · -- found
          have hgx := getR_at acKey ac0 hAt.out hil (by rw [HX.out]; exact he)
          rw [HX.out] at hgx
          have HGx := Lib.hid hgx
          have ht := HG.out.1.1
          have hnow := HG.out.1.2.1
          have hav := availQ_le (t := t) (m := m) (a := x) (now := now) ht.1 hOKx.2.1 (by have := ht.2.2; omega) hOKx.2.2.2.2.1
          have HAV := Lib.hid (fun w => rhas_walk t m x now w ht ⟨hOKx.2.1, hOKx.2.2.1⟩ ⟨hOKx.2.2.2.1, hOKx.2.2.2.2.1⟩ hnow.2)
          have hD : (n ≤ availQ t m x now ∧ D = putR acKey l ⟨who, availQ t m x now - n, now⟩ ∧ W = 0 ∧ E = 0) ∨ (availQ t m x now < n ∧ D = l ∧ W = (n - availQ t m x now + t - 1) / t ∧ E = 10) := by
            rcases HT.out with ⟨h1, _⟩ | ⟨_, h1, _⟩ | ⟨_, _, h1, _⟩ | ⟨_, _, h1, _⟩ | ⟨_, _, ⟨y, h1, h2⟩, h3⟩ | ⟨_, _, ⟨y, h1, h2, h3, h4⟩, h5⟩
            · exact absurd HG.out h1
            · omega
            · rw [hgx] at h1; cases h1
            · rw [hgx] at h1; cases h1
            · rw [hgx] at h1; injection h1 with h1; subst h1; exact .inl ⟨h2.1, h2.2, h3⟩
            · rw [hgx] at h1; injection h1 with h1; subst h1; exact .inr ⟨h2, h3, h4, h5⟩
          have HSP := Lib.hid (show ∀ v u, putR acKey l ⟨who, v, u⟩ = l.take k ++ [⟨who, v, u⟩] ++ l.drop (k + 1) from fun v u => putR_old acKey ac0 (x := (⟨who, v, u⟩ : Ac)) hAt.out hil (by rw [HX.out]; exact he))
          have HSQ := Lib.hid (show l = l.take k ++ [x] ++ l.drop (k + 1) from by
            have h1 := take_get l ac0 k hil
            rw [HX.out] at h1
            rw [← h1, List.take_append_drop])
          have ht1 := ht.1
          have ht2 := ht.2.1
          have hm2 := ht.2.2.2
          clear hOKx ht hgx hWh
          generalize availQ t m x now = av at *
          obtain ⟨xo, xl, xs⟩ := x
          simp only at r0 r1 r2 he HAV hlt HSQ
          subst he
          have HSC := Lib.hid (show acCells (l.take k) ++ [.int .i64 xo, .int .i64 xl, .int .i64 xs] ++ acCells (l.drop (k + 1)) = acCells l from by
            conv => rhs; rw [HSQ.out]
            rw [acCells_append, acCells_snoc])
          have e0 : wr.cell? ⟨w1.heap.size, 0, none⟩ = some (.int .i64 xo) := hWr.cell 0
          have e1 : wr.cell? ⟨w1.heap.size, 1, none⟩ = some (.int .i64 m) := hWr.cell 1
          have e2 : wr.cell? ⟨w1.heap.size, 2, none⟩ = some (.int .i64 now) := hWr.cell 2
          have f0 := hWr.frozen 0
          have f1 := hWr.frozen 1
          have f2 := hWr.frozen 2
          obtain ⟨WhS, ownS, belS⟩ := st3 hWr (.int .i64 xo) (.int .i64 xl) (.int .i64 xs) hzA hown
          have qS := hqr.trans (belS (w.heap.size + 1) hz1w)
          have SS := (HSL.out _ hbw).below (belS w1.heap.size (Nat.le_refl _)) (by omega)
          have HWS := (HW.out.trans (hbw.mono HZ0.out)).trans (belS w.heap.size (by omega))
          have zS0 := (belS 0 (Nat.zero_le _)).size
          have hck : Hid (c = k + 1 → acCells (l.drop (k + 1)) = []) := Lib.hid (fun h => by rw [List.drop_of_length_le (by rw [HNe.out]; have := HAC.out.2; omega)]; rfl)
          have hNc := HAC.out.2
          clear HSL hWr hown belS hqr
          rcases (show c = k + 1 ∨ ¬ c = k + 1 by omega) with hc1 | hc1
          all_goals
            first | (have HDn := Lib.hid (hck.out hc1)) | skip
            have e3 := WhS.cell 0
            have e4 := WhS.cell 1
            have e5 := WhS.cell 2
            simp only [List.getElem?_toArray, List.getElem?_cons_zero, List.getElem?_cons_succ] at e3 e4 e5
            clear e3 e4 e5
            go_wp2_with fail
            obtain ⟨wS, hS⟩ : ∃ wS, wS = (((wr.setCell ⟨w1.heap.size, 0, none⟩ (.int .i64 xo)).setCell ⟨w1.heap.size, 1, none⟩ (.int .i64 xl)).setCell ⟨w1.heap.size, 2, none⟩ (.int .i64 xs)) := ⟨_, rfl⟩
            rw [← hS] at WhS ownS qS SS HWS zS0 ⊢
            clear hS e0 e1 e2 f0 f1 f2 d0 d1
            refine (HAV.out _).mono ?_
            rintro e w5 ⟨rfl, g5⟩
            have Wh5 := WhS.keep g5
            have own5 := own_keep ownS g5
            have zS := g5.size
            have q5 := qS.trans (g5.mono (by omega))
            have S5 := SS.below g5 (by omega)
            have HW5 := gtrans HWS g5
            obtain ⟨d0, d1⟩ := C0.out _ q5
            clear WhS ownS qS SS HWS g5
            rcases hD with ⟨hle, hDe, hWe, rfl⟩ | ⟨hgt, hDe, hWe, rfl⟩
            · have HDe := Lib.hid hDe
              have HWe := Lib.hid hWe
              clear hDe hWe
              have hnl : ¬ av < n := by omega
              have e0 := Wh5.cell 0
              have e1 := Wh5.cell 1
              have e2 := Wh5.cell 2
              have f0 := Wh5.frozen 0
              have f1 := Wh5.frozen 1
              have f2 := Wh5.frozen 2
              simp only [List.getElem?_toArray, List.getElem?_cons_zero, List.getElem?_cons_succ] at e0 e1 e2
              have hw3 : IntKind.i64.wrap (av - n) = av - n := IntWalk.i64_in _ (by omega)
              obtain ⟨Wh6, own6, bel6⟩ := st3 Wh5 (.int .i64 xo) (.int .i64 (av - n)) (.int .i64 now) hzA own5
              obtain ⟨w6, h6⟩ : ∃ w6, w6 = (((w5.setCell ⟨w1.heap.size, 0, none⟩ (.int .i64 xo)).setCell ⟨w1.heap.size, 1, none⟩ (.int .i64 (av - n))).setCell ⟨w1.heap.size, 2, none⟩ (.int .i64 now)) := ⟨_, rfl⟩
              have H6 := Lib.hid h6
              have H6b := Lib.hid (show w5.heap.size = w6.heap.size by rw [h6]; simp)
              rw [← h6] at Wh6 own6 bel6
              have z6 := (bel6 0 (Nat.zero_le _)).size
              have HZ6 := Lib.hid (show wA.heap.size ≤ w6.heap.size by omega)
              have HW6 := Lib.hid (HW5.trans (bel6 w.heap.size (by omega)))
              have S6 := S5.below (bel6 w1.heap.size (Nat.le_refl _)) (by omega)
              have HSL := Lib.hid (fun w7 (h7 : Below wA.heap.size w6 w7) => (S6.below h7 (by omega) : Sl w7 B _ (acCells l)))
              have HO6 := Lib.hid own6
              have k0 := Wh6.cell 0
              have k1 := Wh6.cell 1
              have k2 := Wh6.cell 2
              simp only [List.getElem?_toArray, List.getElem?_cons_zero, List.getElem?_cons_succ] at k0 k1 k2
              clear h6 Wh5 Wh6 own5 own6 bel6 S5 S6 HW5 q5
              go_wp2_with (at_builtin; rw [← H6.out]; (try rw [H6b.out]); refine wp_app rfl _ _ 61 rfl wA.heap.size 102 i0 (.agg #[.int .i64 0, .int .i64 0, .int .i64 0]) 3 24 Try.underlying61 hi hz0 hz1 hz2 rfl (by decide) _ _ _ rfl (HO6.out.alloc _) _ _ _ rfl [.int .i64 xo, .int .i64 (av - n), .int .i64 now] _ w6 rfl (sl_fresh _ [.int .i64 xo, .int .i64 (av - n), .int .i64 now] 102) (fun h => by cases h) (fun v hv => by simp at hv; rcases hv with rfl | rfl | rfl <;> rfl) ?x11 ?x12 ?x13 ((Below.refl _ _).alloc HZ6.out _) ?_)
              case x11 => unfold maxLen; omega
              case x12 => omega
              case x13 => exact Nat.le_trans HZ6.out (by simp)
              intro a7 c7 w7 own7 b7
              have HO7 := Lib.hid own7
              have HB7 := Lib.hid b7
              clear own7
              go_wp2_with (at_builtin; refine wp_app rfl _ _ 61 rfl wA.heap.size 102 i0 (.agg #[.int .i64 0, .int .i64 0, .int .i64 0]) 3 24 Try.underlying61 hi hz0 hz1 hz2 rfl (by decide) _ _ _ rfl HO7.out _ _ _ rfl (acCells (l.drop (k + 1))) B w6 ?x14 (by first | exact ac_sub (HSL.out _ HB7.out) _ | exact .inl HDn.out) (by first | (intro h; cases h; done) | (intro _; exact ⟨by omega, rfl⟩)) (acCells_one _) ?x15 ?x16 ?x17 HB7.out ?_)
              case x14 => first | (rw [acCells_length, List.length_drop, HNe.out]; done) | (rw [acCells_length, List.length_drop, HNe.out]; omega)
              case x15 => unfold maxLen; omega
              case x16 => omega
              case x17 => exact Nat.le_trans HZ6.out b7.size
              intro a8 c8 w8 own8 b8
              have HQ8 := Lib.hid own8
              have HB8 := Lib.hid b8
              clear own8 b8 b7
              go_wp2_with fail
              go_ret3
              exact qend_ac HQ8.out (by rw [HDe.out, HSP.out, acCells_append, acCells_snoc]; simp) (by rw [HDe.out, HSP.out]; simp; have := HNe.out; first | omega | exact List.eq_nil_of_length_eq_zero this) (by first | rfl | exact HWe.out.symm) (HW6.out.trans (HB8.out.mono HZ0.out))
            · skip
              have hnl : av < n := hgt
              have hWq : ∀ j : Nat, ∀ V : Int, V = av + t * (j : Int) → n ≤ V → V - t < n → (j : Int) = W := fun j V hV h1 h2 => by
                rw [hWe]
                have e : n - av + t - 1 = t * (j : Int) + (n - av + t - 1 - t * (j : Int)) := by omega
                rw [e, Int.add_comm, Int.add_mul_ediv_left _ _ (by omega), Int.ediv_eq_zero_of_lt (by omega) (by omega), Int.zero_add]
              have HWq := Lib.hid hWq
              have e0 := Wh5.cell 0
              have e1 := Wh5.cell 1
              have e2 := Wh5.cell 2
              simp only [List.getElem?_toArray, List.getElem?_cons_zero, List.getElem?_cons_succ] at e0 e1 e2
              have HZ6 := Lib.hid (show wA.heap.size ≤ w5.heap.size by omega)
              have HW6 := Lib.hid HW5
              have HSL := Lib.hid (fun w7 (h7 : Below wA.heap.size w5 w7) => (S5.below h7 (by omega) : Sl w7 B _ (acCells l)))
              have HO6 := Lib.hid own5
              have HWe := Lib.hid hWe
              have HDe := Lib.hid hDe
              clear hWq Wh5 own5 S5 HW5 q5 hWe hDe
              go_wp2_with fail
              go_loop [16, 17] (fun L I => ∃ (j : Nat) (V : Int), I = .int .i64 (j : Int) ∧ L = .int .i64 V ∧ Hid (V = av + t * (j : Int)) ∧ av ≤ V ∧ V < n + t ∧ (j : Int) ≤ 1048577 ∧ Hid (V - t < n)) (fun L _ => (n - intOf L).toNat)
              case atStart => exact ⟨0, av, rfl, rfl, Lib.hid (by simp), by omega, by omega, by omega, Lib.hid (by omega)⟩
              case round =>
                obtain ⟨j, V, rfl, rfl, HV, hv0, hv1, hj2, HVt⟩ := hrel
                by_cases hvn : V < n
                · have hcj : ((j + 1 : Nat) : Int) = (j : Int) + 1 := by omega
                  have HV2 := Lib.hid (show V + t = av + t * ((j + 1 : Nat) : Int) by rw [HV.out, hcj, Int.mul_add, Int.mul_one]; omega)
                  clear hcj
                  have hjb : (j : Int) + 1 ≤ 1048577 := by
                    have e := HV.out
                    have h5 : 1 * (j : Int) ≤ t * (j : Int) := Int.mul_le_mul_of_nonneg_right ht1 (by omega)
                    omega
                  have hw1' : IntKind.i64.wrap (V + t) = V + t := IntWalk.i64_in _ (by omega)
                  have hvt2 := Lib.hid (show V + t - t < n by omega)
                  clear HV HVt
                  go_wp2_with fail
                  go_round
                  case rel => exact ⟨j + 1, V + t, by go_num, rfl, HV2, by omega, by omega, by omega, hvt2⟩
                  case measure => simp [intOf]; omega
                · have HJ := Lib.hid (HWq.out j V HV.out (by omega) HVt.out)
                  clear HV HVt
                  obtain ⟨w6, h6⟩ : ∃ w6, w6 = w5 := ⟨_, rfl⟩
                  have H6 := Lib.hid h6
                  have H6b := Lib.hid (show w6.heap.size = w6.heap.size from rfl)
                  rw [← h6] at HZ6 HW6 HSL HO6
                  clear h6
                  go_wp2_with (at_builtin; rw [← H6.out]; (try rw [H6b.out]); refine wp_app rfl _ _ 61 rfl wA.heap.size 102 i0 (.agg #[.int .i64 0, .int .i64 0, .int .i64 0]) 3 24 Try.underlying61 hi hz0 hz1 hz2 rfl (by decide) _ _ _ rfl (HO6.out.alloc _) _ _ _ rfl [.int .i64 xo, .int .i64 xl, .int .i64 xs] _ w6 rfl (sl_fresh _ [.int .i64 xo, .int .i64 xl, .int .i64 xs] 102) (fun h => by cases h) (fun v hv => by simp at hv; rcases hv with rfl | rfl | rfl <;> rfl) ?x21 ?x22 ?x23 ((Below.refl _ _).alloc HZ6.out _) ?_)
                  case x21 => unfold maxLen; omega
                  case x22 => omega
                  case x23 => exact Nat.le_trans HZ6.out (by simp)
                  intro a7 c7 w7 own7 b7
                  have HO7 := Lib.hid own7
                  have HB7 := Lib.hid b7
                  clear own7
                  go_wp2_with (at_builtin; refine wp_app rfl _ _ 61 rfl wA.heap.size 102 i0 (.agg #[.int .i64 0, .int .i64 0, .int .i64 0]) 3 24 Try.underlying61 hi hz0 hz1 hz2 rfl (by decide) _ _ _ rfl HO7.out _ _ _ rfl (acCells (l.drop (k + 1))) B w6 ?x24 (by first | exact ac_sub (HSL.out _ HB7.out) _ | exact .inl HDn.out) (by first | (intro h; cases h; done) | (intro _; exact ⟨by omega, rfl⟩)) (acCells_one _) ?x25 ?x26 ?x27 HB7.out ?_)
                  case x24 => first | (rw [acCells_length, List.length_drop, HNe.out]; done) | (rw [acCells_length, List.length_drop, HNe.out]; omega)
                  case x25 => unfold maxLen; omega
                  case x26 => omega
                  case x27 => exact Nat.le_trans HZ6.out b7.size
                  intro a8 c8 w8 own8 b8
                  have HQ8 := Lib.hid own8
                  have HB8 := Lib.hid b8
                  clear own8 b8 b7
                  go_wp2_with fail
                  go_ret3
                  exact qend_ac HQ8.out (by rw [HDe.out]; simpa using HSC.out) (by rw [HDe.out, HNe.out]; omega) (by rw [HJ.out]) (HW6.out.trans (HB8.out.mono HZ0.out))
        · have hno : ¬ (k < l.length ∧ acKey (l.getD k ac0) = who) := fun h => he (by have := h.2; rw [HX.out] at this; exact this)
          have hckk : ¬ c = k := by have := HAC.out.2; omega
          have hkN2 : k ≤ N := by omega
          have hgx := getR_at_none acKey ac0 hAt.out hasc.out hno
          have ht := HG.out.1.1
          have hnow := HG.out.1.2.1
          have hm1 := ht.2.2.1
          have hm2 := ht.2.2.2
          have hav : availQ t m ⟨who, m, now⟩ now = m := by unfold availQ; simp
          have HAV := Lib.hid (fun w => rhas_walk t m ⟨who, m, now⟩ now w ht ⟨by simp only; omega, Int.le_refl _⟩ ⟨hnow.1, Int.le_refl _⟩ hnow.2)
          rw [hav] at HAV
          simp only at HAV
          have hD : (N = 64 ∧ D = [] ∧ W = 0 ∧ E = 5) ∨ (N < 64 ∧ D = putR acKey l ⟨who, m - n, now⟩ ∧ W = 0 ∧ E = 0) := by
            have hN := HNe.out
            rcases HT.out with ⟨h1, _⟩ | ⟨_, h1, _⟩ | ⟨_, _, h1, h2, h3⟩ | ⟨_, _, h1, h2, h3⟩ | ⟨_, _, ⟨y, h1, h2⟩, h3⟩ | ⟨_, _, ⟨y, h1, h2, h3, h4⟩, h5⟩
            · exact absurd HG.out h1
            · omega
            · exact .inl ⟨by omega, h3⟩
            · exact .inr ⟨by omega, h3⟩
            · rw [hgx] at h1; cases h1
            · rw [hgx] at h1; cases h1
          have HSP := Lib.hid (show putR acKey l ⟨who, m - n, now⟩ = l.take k ++ [⟨who, m - n, now⟩] ++ l.drop k from putR_new acKey ac0 (x := (⟨who, m - n, now⟩ : Ac)) hAt.out hno)
          have WhS := hWr
          have ownS := hown
          have qS := hqr
          have SS := HSL.out _ hbw
          have HWS := HW.out.trans (hbw.mono HZ0.out)
          have zS0 : wr.heap.size ≤ wr.heap.size := Nat.le_refl _
          have hNc := HAC.out.2
          have e0 : wr.cell? ⟨w1.heap.size, 0, none⟩ = some (.int .i64 who) := hWr.cell 0
          have e1 : wr.cell? ⟨w1.heap.size, 1, none⟩ = some (.int .i64 m) := hWr.cell 1
          have e2 : wr.cell? ⟨w1.heap.size, 2, none⟩ = some (.int .i64 now) := hWr.cell 2
          clear hav ht hgx hno hWr hown hqr HSL
          rcases hD with ⟨hN6, rfl, rfl, rfl⟩ | ⟨hN6, hDe, hWe, rfl⟩
          · have hN6' : (N : Int) = 64 := by omega
            skip
            subst hN6
            go_wp2_with fail
            go_ret3
            exact ⟨none, 0, rfl, .inl rfl, HWS, fun _ => rfl, Nat.le_refl _⟩
          have hNne : ¬ N = 64 := by omega
          have hNne2 : ¬ (N : Int) = 64 := by omega
          have HDe := Lib.hid hDe
          have HWe := Lib.hid hWe
          clear hDe hWe
          have HDn := Lib.hid (show True from trivial)
          go_wp2_with fail
          refine (HAV.out _).mono ?_
          rintro e w5 ⟨rfl, g5⟩
          have Wh5 := WhS.keep g5
          have own5 := own_keep ownS g5
          have zS := g5.size
          have q5 := qS.trans (g5.mono (by omega))
          have S5 := SS.below g5 (by omega)
          have HW5 := gtrans HWS g5
          obtain ⟨d0, d1⟩ := C0.out _ q5
          clear WhS ownS qS SS HWS g5
          have hnl : ¬ m < n := by omega
          have e0 := Wh5.cell 0
          have e1 := Wh5.cell 1
          have e2 := Wh5.cell 2
          have f0 := Wh5.frozen 0
          have f1 := Wh5.frozen 1
          have f2 := Wh5.frozen 2
          simp only [List.getElem?_toArray, List.getElem?_cons_zero, List.getElem?_cons_succ] at e0 e1 e2
          have hw3 : IntKind.i64.wrap (m - n) = m - n := IntWalk.i64_in _ (by omega)
          obtain ⟨Wh6, own6, bel6⟩ := st3 Wh5 (.int .i64 who) (.int .i64 (m - n)) (.int .i64 now) hzA own5
          obtain ⟨w6, h6⟩ : ∃ w6, w6 = (((w5.setCell ⟨w1.heap.size, 0, none⟩ (.int .i64 who)).setCell ⟨w1.heap.size, 1, none⟩ (.int .i64 (m - n))).setCell ⟨w1.heap.size, 2, none⟩ (.int .i64 now)) := ⟨_, rfl⟩
          have H6 := Lib.hid h6
          have H6b := Lib.hid (show w5.heap.size = w6.heap.size by rw [h6]; simp)
          rw [← h6] at Wh6 own6 bel6
          have z6 := (bel6 0 (Nat.zero_le _)).size
          have HZ6 := Lib.hid (show wA.heap.size ≤ w6.heap.size by omega)
          have HW6 := Lib.hid (HW5.trans (bel6 w.heap.size (by omega)))
          have S6 := S5.below (bel6 w1.heap.size (Nat.le_refl _)) (by omega)
          have HSL := Lib.hid (fun w7 (h7 : Below wA.heap.size w6 w7) => (S6.below h7 (by omega) : Sl w7 B _ (acCells l)))
          have HO6 := Lib.hid own6
          have k0 := Wh6.cell 0
          have k1 := Wh6.cell 1
          have k2 := Wh6.cell 2
          simp only [List.getElem?_toArray, List.getElem?_cons_zero, List.getElem?_cons_succ] at k0 k1 k2
          clear h6 Wh5 Wh6 own5 own6 bel6 S5 S6 HW5 q5
          go_wp2_with (at_builtin; rw [← H6.out]; (try rw [H6b.out]); refine wp_app rfl _ _ 61 rfl wA.heap.size 102 i0 (.agg #[.int .i64 0, .int .i64 0, .int .i64 0]) 3 24 Try.underlying61 hi hz0 hz1 hz2 rfl (by decide) _ _ _ rfl (HO6.out.alloc _) _ _ _ rfl [.int .i64 who, .int .i64 (m - n), .int .i64 now] _ w6 rfl (sl_fresh _ [.int .i64 who, .int .i64 (m - n), .int .i64 now] 102) (fun h => by cases h) (fun v hv => by simp at hv; rcases hv with rfl | rfl | rfl <;> rfl) ?x31 ?x32 ?x33 ((Below.refl _ _).alloc HZ6.out _) ?_)
          case x31 => unfold maxLen; omega
          case x32 => omega
          case x33 => exact Nat.le_trans HZ6.out (by simp)
          intro a7 c7 w7 own7 b7
          have HO7 := Lib.hid own7
          have HB7 := Lib.hid b7
          clear own7
          go_wp2_with (at_builtin; refine wp_app rfl _ _ 61 rfl wA.heap.size 102 i0 (.agg #[.int .i64 0, .int .i64 0, .int .i64 0]) 3 24 Try.underlying61 hi hz0 hz1 hz2 rfl (by decide) _ _ _ rfl HO7.out _ _ _ rfl (acCells (l.drop (k))) B w6 ?x34 (by first | exact ac_sub (HSL.out _ HB7.out) _ | exact .inl HDn.out) (by first | (intro h; cases h; done) | (intro _; exact ⟨by omega, rfl⟩)) (acCells_one _) ?x35 ?x36 ?x37 HB7.out ?_)
          case x34 => first | (rw [acCells_length, List.length_drop, HNe.out]; done) | (rw [acCells_length, List.length_drop, HNe.out]; omega)
          case x35 => unfold maxLen; omega
          case x36 => omega
          case x37 => exact Nat.le_trans HZ6.out b7.size
          intro a8 c8 w8 own8 b8
          have HQ8 := Lib.hid own8
          have HB8 := Lib.hid b8
          clear own8 b8 b7
          go_wp2_with fail
          go_ret3
          exact qend_ac HQ8.out (by rw [HDe.out, HSP.out, acCells_append, acCells_snoc]; simp) (by rw [HDe.out, HSP.out]; simp; have := HNe.out; first | omega | exact List.eq_nil_of_length_eq_zero this) (by first | rfl | exact HWe.out.symm) (HW6.out.trans (HB8.out.mono HZ0.out))
    · obtain rfl : k = N := by omega
      have hAt := Lib.hid (atR_of acKey ac0 hasc.out (by rw [HNe.out]; exact Nat.le_refl _) HL.out (fun h => by have := HNe.out; omega))
      have hno : ¬ (k < l.length ∧ acKey (l.getD k ac0) = who) := fun h => by have := h.1; have := HNe.out; omega
      have hgx := getR_at_none acKey ac0 hAt.out hasc.out hno
      have ht := HG.out.1.1
      have hnow := HG.out.1.2.1
      have hm1 := ht.2.2.1
      have hm2 := ht.2.2.2
      have hav : availQ t m ⟨who, m, now⟩ now = m := by unfold availQ; simp
      have HAV := Lib.hid (fun w => rhas_walk t m ⟨who, m, now⟩ now w ht ⟨by simp only; omega, Int.le_refl _⟩ ⟨hnow.1, Int.le_refl _⟩ hnow.2)
      rw [hav] at HAV
      simp only at HAV
      have hD : (k = 64 ∧ D = [] ∧ W = 0 ∧ E = 5) ∨ (k < 64 ∧ D = putR acKey l ⟨who, m - n, now⟩ ∧ W = 0 ∧ E = 0) := by
        have hN := HNe.out
        rcases HT.out with ⟨h1, _⟩ | ⟨_, h1, _⟩ | ⟨_, _, h1, h2, h3⟩ | ⟨_, _, h1, h2, h3⟩ | ⟨_, _, ⟨y, h1, h2⟩, h3⟩ | ⟨_, _, ⟨y, h1, h2, h3, h4⟩, h5⟩
        · exact absurd HG.out h1
        · omega
        · exact .inl ⟨by omega, h3⟩
        · exact .inr ⟨by omega, h3⟩
        · rw [hgx] at h1; cases h1
        · rw [hgx] at h1; cases h1
      have HSP := Lib.hid (show putR acKey l ⟨who, m - n, now⟩ = l.take k ++ [⟨who, m - n, now⟩] ++ l.drop k from putR_new acKey ac0 (x := (⟨who, m - n, now⟩ : Ac)) hAt.out hno)
      have WhS := hWr
      have ownS := hown
      have qS := hqr
      have SS := HSL.out _ hbw
      have HWS := HW.out.trans (hbw.mono HZ0.out)
      have zS0 : wr.heap.size ≤ wr.heap.size := Nat.le_refl _
      have hNc := HAC.out.2
      have e0 : wr.cell? ⟨w1.heap.size, 0, none⟩ = some (.int .i64 who) := hWr.cell 0
      have e1 : wr.cell? ⟨w1.heap.size, 1, none⟩ = some (.int .i64 m) := hWr.cell 1
      have e2 : wr.cell? ⟨w1.heap.size, 2, none⟩ = some (.int .i64 now) := hWr.cell 2
      clear hav ht hgx hno hWr hown hqr HSL
      rcases hD with ⟨hN6, rfl, rfl, rfl⟩ | ⟨hN6, hDe, hWe, rfl⟩
      · have hN6' : (k : Int) = 64 := by omega
        skip
        subst hN6
        go_wp2_with fail
        go_ret3
        exact ⟨none, 0, rfl, .inl rfl, HWS, fun _ => rfl, Nat.le_refl _⟩
      have hNne : ¬ k = 64 := by omega
      have hNne2 : ¬ (k : Int) = 64 := by omega
      have HDe := Lib.hid hDe
      have HWe := Lib.hid hWe
      clear hDe hWe
      have HDn := Lib.hid (show acCells (l.drop k) = [] by rw [List.drop_of_length_le (by rw [HNe.out]; exact Nat.le_refl _)]; rfl)
      have HACn := Lib.hid (show a = none → c = 0 from HAC.out.1)
      rcases (show (a = none ∧ c = 0 ∧ k = 0) ∨ (∃ ad, a = some ad ∧ (c = k ∨ ¬ c = k)) from by
        cases a with
        | none => have := HAC.out.1 rfl; exact .inl ⟨rfl, this, by omega⟩
        | some ad => exact .inr ⟨ad, rfl, by omega⟩) with ⟨rfl, rfl, rfl⟩ | ⟨ad, rfl, hck | hck⟩
      · skip
        go_wp2_with fail
        refine (HAV.out _).mono ?_
        rintro e w5 ⟨rfl, g5⟩
        have Wh5 := WhS.keep g5
        have own5 := own_keep ownS g5
        have zS := g5.size
        have q5 := qS.trans (g5.mono (by omega))
        have S5 := SS.below g5 (by omega)
        have HW5 := gtrans HWS g5
        obtain ⟨d0, d1⟩ := C0.out _ q5
        clear WhS ownS qS SS HWS g5
        have hnl : ¬ m < n := by omega
        have e0 := Wh5.cell 0
        have e1 := Wh5.cell 1
        have e2 := Wh5.cell 2
        have f0 := Wh5.frozen 0
        have f1 := Wh5.frozen 1
        have f2 := Wh5.frozen 2
        simp only [List.getElem?_toArray, List.getElem?_cons_zero, List.getElem?_cons_succ] at e0 e1 e2
        have hw3 : IntKind.i64.wrap (m - n) = m - n := IntWalk.i64_in _ (by omega)
        obtain ⟨Wh6, own6, bel6⟩ := st3 Wh5 (.int .i64 who) (.int .i64 (m - n)) (.int .i64 now) hzA own5
        obtain ⟨w6, h6⟩ : ∃ w6, w6 = (((w5.setCell ⟨w1.heap.size, 0, none⟩ (.int .i64 who)).setCell ⟨w1.heap.size, 1, none⟩ (.int .i64 (m - n))).setCell ⟨w1.heap.size, 2, none⟩ (.int .i64 now)) := ⟨_, rfl⟩
        have H6 := Lib.hid h6
        have H6b := Lib.hid (show w5.heap.size = w6.heap.size by rw [h6]; simp)
        rw [← h6] at Wh6 own6 bel6
        have z6 := (bel6 0 (Nat.zero_le _)).size
        have HZ6 := Lib.hid (show wA.heap.size ≤ w6.heap.size by omega)
        have HW6 := Lib.hid (HW5.trans (bel6 w.heap.size (by omega)))
        have S6 := S5.below (bel6 w1.heap.size (Nat.le_refl _)) (by omega)
        have HSL := Lib.hid (fun w7 (h7 : Below wA.heap.size w6 w7) => (S6.below h7 (by omega) : Sl w7 B _ (acCells l)))
        have HO6 := Lib.hid own6
        have k0 := Wh6.cell 0
        have k1 := Wh6.cell 1
        have k2 := Wh6.cell 2
        simp only [List.getElem?_toArray, List.getElem?_cons_zero, List.getElem?_cons_succ] at k0 k1 k2
        clear h6 Wh5 Wh6 own5 own6 bel6 S5 S6 HW5 q5
        go_wp2_with (at_builtin; rw [← H6.out]; (try rw [H6b.out]); refine wp_app rfl _ _ 61 rfl wA.heap.size 102 i0 (.agg #[.int .i64 0, .int .i64 0, .int .i64 0]) 3 24 Try.underlying61 hi hz0 hz1 hz2 rfl (by decide) _ _ _ rfl (HO6.out.alloc _) _ _ _ rfl [.int .i64 who, .int .i64 (m - n), .int .i64 now] _ w6 rfl (sl_fresh _ [.int .i64 who, .int .i64 (m - n), .int .i64 now] 102) (fun h => by cases h) (fun v hv => by simp at hv; rcases hv with rfl | rfl | rfl <;> rfl) ?x41 ?x42 ?x43 ((Below.refl _ _).alloc HZ6.out _) ?_)
        case x41 => unfold maxLen; omega
        case x42 => omega
        case x43 => exact Nat.le_trans HZ6.out (by simp)
        intro a7 c7 w7 own7 b7
        have HO7 := Lib.hid own7
        have HB7 := Lib.hid b7
        clear own7
        go_wp2_with (at_builtin; refine wp_app rfl _ _ 61 rfl wA.heap.size 102 i0 (.agg #[.int .i64 0, .int .i64 0, .int .i64 0]) 3 24 Try.underlying61 hi hz0 hz1 hz2 rfl (by decide) _ _ _ rfl HO7.out _ _ _ rfl (acCells (l.drop (0))) B w6 ?x44 (by first | exact ac_sub (HSL.out _ HB7.out) _ | exact .inl HDn.out) (by first | (intro h; cases h; done) | (intro _; exact ⟨by omega, rfl⟩)) (acCells_one _) ?x45 ?x46 ?x47 HB7.out ?_)
        case x44 => first | (rw [acCells_length, List.length_drop, HNe.out]; done) | (rw [acCells_length, List.length_drop, HNe.out]; omega)
        case x45 => unfold maxLen; omega
        case x46 => omega
        case x47 => exact Nat.le_trans HZ6.out b7.size
        intro a8 c8 w8 own8 b8
        have HQ8 := Lib.hid own8
        have HB8 := Lib.hid b8
        clear own8 b8 b7
        go_wp2_with fail
        go_ret3
        exact qend_ac HQ8.out (by rw [HDe.out, HSP.out, acCells_append, acCells_snoc]; simp) (by rw [HDe.out, HSP.out]; simp; have := HNe.out; first | omega | exact List.eq_nil_of_length_eq_zero this) (by first | rfl | exact HWe.out.symm) (HW6.out.trans (HB8.out.mono HZ0.out))
      all_goals
        go_wp2_with fail
        refine (HAV.out _).mono ?_
        rintro e w5 ⟨rfl, g5⟩
        have Wh5 := WhS.keep g5
        have own5 := own_keep ownS g5
        have zS := g5.size
        have q5 := qS.trans (g5.mono (by omega))
        have S5 := SS.below g5 (by omega)
        have HW5 := gtrans HWS g5
        obtain ⟨d0, d1⟩ := C0.out _ q5
        clear WhS ownS qS SS HWS g5
        have hnl : ¬ m < n := by omega
        have e0 := Wh5.cell 0
        have e1 := Wh5.cell 1
        have e2 := Wh5.cell 2
        have f0 := Wh5.frozen 0
        have f1 := Wh5.frozen 1
        have f2 := Wh5.frozen 2
        simp only [List.getElem?_toArray, List.getElem?_cons_zero, List.getElem?_cons_succ] at e0 e1 e2
        have hw3 : IntKind.i64.wrap (m - n) = m - n := IntWalk.i64_in _ (by omega)
        obtain ⟨Wh6, own6, bel6⟩ := st3 Wh5 (.int .i64 who) (.int .i64 (m - n)) (.int .i64 now) hzA own5
        obtain ⟨w6, h6⟩ : ∃ w6, w6 = (((w5.setCell ⟨w1.heap.size, 0, none⟩ (.int .i64 who)).setCell ⟨w1.heap.size, 1, none⟩ (.int .i64 (m - n))).setCell ⟨w1.heap.size, 2, none⟩ (.int .i64 now)) := ⟨_, rfl⟩
        have H6 := Lib.hid h6
        have H6b := Lib.hid (show w5.heap.size = w6.heap.size by rw [h6]; simp)
        rw [← h6] at Wh6 own6 bel6
        have z6 := (bel6 0 (Nat.zero_le _)).size
        have HZ6 := Lib.hid (show wA.heap.size ≤ w6.heap.size by omega)
        have HW6 := Lib.hid (HW5.trans (bel6 w.heap.size (by omega)))
        have S6 := S5.below (bel6 w1.heap.size (Nat.le_refl _)) (by omega)
        have HSL := Lib.hid (fun w7 (h7 : Below wA.heap.size w6 w7) => (S6.below h7 (by omega) : Sl w7 B _ (acCells l)))
        have HO6 := Lib.hid own6
        have k0 := Wh6.cell 0
        have k1 := Wh6.cell 1
        have k2 := Wh6.cell 2
        simp only [List.getElem?_toArray, List.getElem?_cons_zero, List.getElem?_cons_succ] at k0 k1 k2
        clear h6 Wh5 Wh6 own5 own6 bel6 S5 S6 HW5 q5
        go_wp2_with (at_builtin; rw [← H6.out]; (try rw [H6b.out]); refine wp_app rfl _ _ 61 rfl wA.heap.size 102 i0 (.agg #[.int .i64 0, .int .i64 0, .int .i64 0]) 3 24 Try.underlying61 hi hz0 hz1 hz2 rfl (by decide) _ _ _ rfl (HO6.out.alloc _) _ _ _ rfl [.int .i64 who, .int .i64 (m - n), .int .i64 now] _ w6 rfl (sl_fresh _ [.int .i64 who, .int .i64 (m - n), .int .i64 now] 102) (fun h => by cases h) (fun v hv => by simp at hv; rcases hv with rfl | rfl | rfl <;> rfl) ?x51 ?x52 ?x53 ((Below.refl _ _).alloc HZ6.out _) ?_)
        case x51 => unfold maxLen; omega
        case x52 => omega
        case x53 => exact Nat.le_trans HZ6.out (by simp)
        intro a7 c7 w7 own7 b7
        have HO7 := Lib.hid own7
        have HB7 := Lib.hid b7
        clear own7
        go_wp2_with (at_builtin; refine wp_app rfl _ _ 61 rfl wA.heap.size 102 i0 (.agg #[.int .i64 0, .int .i64 0, .int .i64 0]) 3 24 Try.underlying61 hi hz0 hz1 hz2 rfl (by decide) _ _ _ rfl HO7.out _ _ _ rfl (acCells (l.drop (k))) B w6 ?x54 (by first | exact ac_sub (HSL.out _ HB7.out) _ | exact .inl HDn.out) (by first | (intro h; cases h; done) | (intro _; exact ⟨by omega, rfl⟩)) (acCells_one _) ?x55 ?x56 ?x57 HB7.out ?_)
        case x54 => first | (rw [acCells_length, List.length_drop, HNe.out]; done) | (rw [acCells_length, List.length_drop, HNe.out]; omega)
        case x55 => unfold maxLen; omega
        case x56 => omega
        case x57 => exact Nat.le_trans HZ6.out b7.size
        intro a8 c8 w8 own8 b8
        have HQ8 := Lib.hid own8
        have HB8 := Lib.hid b8
        clear own8 b8 b7
        go_wp2_with fail
        go_ret3
        exact qend_ac HQ8.out (by rw [HDe.out, HSP.out, acCells_append, acCells_snoc]; simp) (by rw [HDe.out, HSP.out]; simp; have := HNe.out; first | omega | exact List.eq_nil_of_length_eq_zero this) (by first | rfl | exact HWe.out.symm) (HW6.out.trans (HB8.out.mono HZ0.out))
theorem rtake_walk (t m : Int) (l : List Ac) (N : Nat) (a : Option Addr) (c B : Nat) (who n now : Int) (w : World) (D : List Ac) (W E : Int) (hN : l.length = N) (hT : TkIs t m l who n now D W E) (h : Sl w B a (acCells l)) (hB : B ≤ w.heap.size) (hac : (a = none → c = 0) ∧ N ≤ c) :
    Calls Try.prog 38 #[.agg #[.int .i64 t, .int .i64 m], .slice a N c, .int .i64 who, .int .i64 n, .int .i64 now] w (QPost w D W E) := by
  by_cases hg : GoodQ t m l who n now
  · exact rtake_yes t m l N a c B who n now w D W E hN hg hT h hB hac
  · obtain ⟨rfl, rfl, rfl⟩ : D = [] ∧ W = 0 ∧ E = 1 := by
      rcases hT with ⟨_, h2⟩ | ⟨h1, _⟩ | ⟨h1, _⟩ | ⟨h1, _⟩ | ⟨h1, _⟩ | ⟨h1, _⟩
      · exact h2
      all_goals exact absurd h1 hg
    exact rtake_bad t m l N a c B who n now w hN hg h hB
end Go.Proofs.Ytbhbilmpkgcmeaa
