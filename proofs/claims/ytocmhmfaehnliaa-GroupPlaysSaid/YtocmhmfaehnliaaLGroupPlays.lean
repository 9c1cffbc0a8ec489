/- The walk of GroupPlays. -/
import Derived.Test.YtocmhmfaehnliaaGrStepAll
import Derived.Test.YtocmhmfaehnliaaGrOwn
namespace Go.Proofs.Ytocmhmfaehnliaa
open Go.RowKit Vm As
set_option linter.unusedVariables false
set_option linter.unusedSimpArgs false

theorem plays_new {p g0 n0 : Int} (h : newOk p g0 n0 = true) : ∃ P : Nat, p = (P : Int) := by
  unfold newOk at h
  simp at h
  exact ⟨p.toNat, by omega⟩
set_option maxRecDepth 100000 in
set_option maxHeartbeats 32000000 in
theorem plays_bad (p g0 n0 : Int) (st : Bool) (n c : Nat) (a : Option Addr) (w : World) (h : newOk p g0 n0 = false) :
    Calls Try.prog 3 #[.agg #[.int .i64 p, .int .i64 g0, .int .i64 n0, .bool st], .slice a n c] w fun e w' => e = .returned (.bool true) ∧ Below w.heap.size w w' := by
  have K1 := Lib.hid (fun w => gnew_bad p st g0 n0 w h)
  have K2 := Lib.hid (fun w => rnew_bad p st g0 n0 w h)
  have K7 := Lib.hid (fun w => awake10_walk w)
  unfold NewBad at K1 K2
  have hal := balloc w (.cells #[.int .i64 p, .int .i64 g0, .int .i64 n0, .bool st] 23)
  have hX := Whole.new w 23 #[.int .i64 p, .int .i64 g0, .int .i64 n0, .bool st]
  clear h
  go_enter Try.func3, Try.ntmps3
  go_upto_region 1 with fail
  obtain ⟨w1, hw1⟩ : ∃ w1, w1 = w.alloc (.cells #[.int .i64 p, .int .i64 g0, .int .i64 n0, .bool st] 23) := ⟨_, rfl⟩
  rw [← hw1] at hal hX ⊢
  clear hw1
  have x0 := hX.cell 0
  have x1 := hX.cell 1
  have x2 := hX.cell 2
  have x3 := hX.cell 3
  simp only [List.getElem?_toArray, List.getElem?_cons_zero, List.getElem?_cons_succ] at x0 x1 x2 x3
  have xl := hX.lt
  go_wp2_with fail
  refine (K1.out _).mono ?_
  rintro e w2 ⟨rfl, h2⟩
  have X2 := hX.keep h2
  have b2 := gtrans hal h2
  clear x0 x1 x2 x3 hX hal xl
  have x0 := X2.cell 0
  have x1 := X2.cell 1
  have x2 := X2.cell 2
  have x3 := X2.cell 3
  simp only [List.getElem?_toArray, List.getElem?_cons_zero, List.getElem?_cons_succ] at x0 x1 x2 x3
  have xl := X2.lt
  go_wp2_with fail
  refine (K2.out _).mono ?_
  rintro e w3 ⟨rfl, h3⟩
  have b3 := gtrans b2 h3
  clear x0 x1 x2 x3 X2 b2 xl
  go_wp2_with fail
  refine (K7.out _).mono ?_
  rintro e w8 ⟨rfl, h8⟩
  have b8 := gtrans b3 h8
  go_wp2_with fail
  go_ret
  exact ⟨rfl, b8⟩
set_option maxRecDepth 100000 in
set_option maxHeartbeats 32000000 in
theorem plays_good (P : Nat) (g0 n0 : Int) (st : Bool) (l : List Gd) (n c : Nat) (a : Option Addr) (w : World) (h : newOk (P : Int) g0 n0 = true) (hn : l.length = n) (hl : Sl w w.heap.size a (gdCells l)) (hc : n ≤ c ∧ c ≤ maxLen) :
    Calls Try.prog 3 #[.agg #[.int .i64 (P : Int), .int .i64 g0, .int .i64 n0, .bool st], .slice a n c] w fun e w' => e = .returned (.bool true) ∧ Below w.heap.size w w' := by
  have HOK := Lib.hid (fun k => runG_ok (l := l) (newG_ok (st := st) h) k)
  have HAS := Lib.hid (fun k => asc_run (l := l) (newG_ok (st := st) h) (by unfold Asc prs newG; simp) k)
  have K1 := Lib.hid (fun w => new_ga P st g0 n0 w h)
  have K2 := Lib.hid (fun w => rnew_walk P st g0 n0 w h)
  have K7 := Lib.hid (fun w => awake10_walk w)
  unfold NewQ at K1
  unfold RNewPost at K2
  obtain ⟨N, hN⟩ : ∃ N, min n 120 = N := ⟨_, rfl⟩
  have hNm : N ≤ 120 := by omega
  have hNl : N ≤ l.length := by omega
  have KS := Lib.hid (fun w => some10_walk a n c w (by have h9 := hc.2; unfold maxLen at h9; omega) hc.1)
  rw [hN] at KS
  have HS := Lib.hid hl
  have HNl := Lib.hid hNl
  have hal := balloc w (.cells #[.int .i64 (P : Int), .int .i64 g0, .int .i64 n0, .bool st] 23)
  have hX := Whole.new w 23 #[.int .i64 (P : Int), .int .i64 g0, .int .i64 n0, .bool st]
  generalize hGZ : newG P st g0 n0 = GZ at *
  clear h hn hl hc hN hNl hGZ
  go_enter Try.func3, Try.ntmps3
  go_upto_region 1 with fail
  obtain ⟨w1, hw1⟩ : ∃ w1, w1 = w.alloc (.cells #[.int .i64 (P : Int), .int .i64 g0, .int .i64 n0, .bool st] 23) := ⟨_, rfl⟩
  rw [← hw1] at hal hX ⊢
  clear hw1
  have x0 := hX.cell 0
  have x1 := hX.cell 1
  have x2 := hX.cell 2
  have x3 := hX.cell 3
  simp only [List.getElem?_toArray, List.getElem?_cons_zero, List.getElem?_cons_succ] at x0 x1 x2 x3
  have xl := hX.lt
  go_wp2_with fail
  refine (K1.out _).mono ?_
  rintro e w2 ⟨g, S0, rfl, A2, hZ2, h2⟩
  have X2 := hX.keep h2
  have b2 := gtrans hal h2
  have hz1 := hal.size
  have hZS := Lib.hid (fun x hx => Nat.le_trans hz1 (hZ2.out x hx))
  clear x0 x1 x2 x3 hX hal xl K1
  have x0 := X2.cell 0
  have x1 := X2.cell 1
  have x2 := X2.cell 2
  have x3 := X2.cell 3
  simp only [List.getElem?_toArray, List.getElem?_cons_zero, List.getElem?_cons_succ] at x0 x1 x2 x3
  have xl := X2.lt
  go_wp2_with fail
  refine (K2.out _).mono ?_
  rintro e w3 ⟨r, br, dr, rfl, R3, hZr, h3⟩
  have A3 := A2.keep h3
  have RA3 : RA w3 r GZ (SF r none br) := ⟨none, 0, br, dr, R3, rfl⟩
  have b3 := gtrans b2 h3
  have hz2 := b2.size
  have hDJ := Lib.hid (show ∀ x, S0 x → ¬ SF r none br x from fun x hx hy => by have := A2.live x hx; have := hZr x hy; omega)
  have hZT := Lib.hid (fun x hx => Nat.le_trans hz2 (hZr x hx))
  generalize SF r none br = T0 at *
  clear x0 x1 x2 x3 X2 b2 xl K2 R3 A2 hZ2 hZr h2 h3 hz1 hz2
  go_wp2_with fail
  refine (KS.out w3).mono ?_
  rintro e w4 ⟨rfl, rfl⟩
  clear KS
  go_wp2_with fail
  go_loopw [9] (fun I wr => ∃ (k : Nat) (S T : Nat → Prop), k ≤ N ∧ I = .int .i64 k ∧ GA wr g (runG GZ l k) S ∧ RA wr r (runG GZ l k) T ∧ Hid (∀ x, S x → ¬ T x) ∧ Hid (∀ x, S x → w.heap.size ≤ x) ∧ Hid (∀ x, T x → w.heap.size ≤ x) ∧ Below w.heap.size w wr) (fun I _ => N - (intOf I).toNat)
  case atStart => exact ⟨0, S0, T0, by omega, rfl, A3, RA3, Lib.hid (fun x hx hy => hDJ.out x hx hy), hZS, hZT, b3⟩
  case round =>
    obtain ⟨k, S, T, hk, rfl, A, R, hD, hZ, hZt, hb⟩ := hrel
    clear A3 RA3 hZS hZT b3 hDJ
    by_cases hlt : k < N
    · have hlt2 : (k : Int) < (N : Int) := by omega
      have hk0 : 0 ≤ (k : Int) := by omega
      obtain ⟨b1, o1, rfl, hb1, z0, z1, z2, z3, z4⟩ := (HS.out.below hb (Nat.le_refl _)).gd5 (k := k) (by have := HNl.out; omega)
      have hz1 : b1 < wr.heap.size := by have := hb.size; omega
      have HRun : Hid (doesG (runG GZ l k) (l.getD k gd0) = runG GZ l (k + 1)) := Lib.hid rfl
      have HOKk := Lib.hid (HOK.out k)
      have HOK1 := Lib.hid (HOK.out (k + 1))
      have HASk := Lib.hid (HAS.out k)
      generalize hG1 : runG GZ l (k + 1) = G' at *
      have HG1 := Lib.hid hG1
      generalize runG GZ l k = G at *
      generalize hx : l.getD k gd0 = x at *
      have hlN := HOKk.out.len
      obtain ⟨xk, xa, xb, xp, xn⟩ := x
      have KA := Lib.hid (fun w' a c (hs : Sl w' w'.heap.size a (mbCells G.L)) => aimed_walk ⟨xk, xa, xb, xp, xn⟩ G.L G.g G.L.length a c w' rfl (by omega) hs)
      unfold AimPost gdV at KA
      have KSt := Lib.hid (fun w' (h1 : GA w' g G S) (h2 : RA w' r G T) => step_walk k (aimF ⟨xk, xa, xb, xp, xn⟩ G.L G.g) G g r S T w' (by omega) HOKk.out HASk.out h1 h2 hD.out)
      unfold StepP gdV at KSt
      have hdoes : doesY G (aimF ⟨xk, xa, xb, xp, xn⟩ G.L G.g) = G' := HRun.out
      rw [hdoes] at KSt
      have KSm := Lib.hid (fun w' S' T' (h1 : GA w' g G' S') (h2 : RA w' r G' T') => same10_walk (k + 1) G' g r S' T' w' (by omega) HOK1.out h1 h2)
      simp only at z0 z1 z2 z3 z4 KA
      generalize aimF ⟨xk, xa, xb, xp, xn⟩ G.L G.g = y at *
      obtain ⟨yk, ya, yb, yp, yn⟩ := y
      simp only at KA KSt
      obtain ⟨ar, cr, br, dr, hR, rfl⟩ := R
      obtain ⟨m0, m1, m2, m3, m4, m5, m6, hfz⟩ := hR.seven
      have hrl := hR.lt
      have SL := Lib.hid (fun w' (y : Below wr.heap.size wr w') => (ownN_sl (hR.keep y).rowL))
      have AG := Lib.hid (fun w' (y : Below wr.heap.size wr w') => A.keep y)
      have AR := Lib.hid (fun w' (y : Below wr.heap.size wr w') => (⟨ar, cr, br, dr, hR.keep y, rfl⟩ : RA w' r G (SF r ar br)))
      have y0 : Below wr.heap.size wr wr.drew := (Below.refl _ _).drew
      generalize G.L.length = nl at *
      generalize G.g = gg at *
      clear m0 m1 m3 m4 m6 hfz hx hG1 hdoes A hR
      go_wp2_with fail
      go_region_with (first
        | (go_at_call 14; refine (KA.out _ _ _ (SL.out _ (by with_reducible assumption))).mono ?_; rintro e w5 ⟨rfl, h5⟩; have y5 := gtrans (by with_reducible assumption) h5)
        | (go_at_call 13; refine (KSt.out _ (AG.out _ (by with_reducible assumption)) (AR.out _ (by with_reducible assumption))).mono ?_; rintro e w6 ⟨rfl, S6, T6, A6, R6, D6, M6⟩)
        | (go_at_call 15; refine (KSm.out _ _ _ A6 R6).mono ?_; rintro e w7 ⟨rfl, h7⟩))
      all_goals
        have M5 := (Mvs.below (Un S (SF r ar br)) y5).trans M6
        have hzu : ∀ x, Un S (SF r ar br) x → w.heap.size ≤ x := fun x hx => by
          rcases hx with hx | hx
          · exact hZ.out x hx
          · exact hZt.out x hx
        have b6 := hb.trans (M5.low hzu hb.size)
        have hz6 := M5.low2 hzu hb.size
        have A7 := A6.keep h7
        have R7 := R6.same (w' := w7) (fun k hk _ => h7.block k hk)
        have hZ7 := Lib.hid (fun x (hx : S6 x) => hz6 x (.inl hx))
        have hZt7 := Lib.hid (fun x (hx : T6 x) => hz6 x (.inr hx))
        have D7 := Lib.hid D6
        have b7 := b6.trans (h7.mono b6.size)
        have hA7 := Lib.hid A7
        have hR7 := Lib.hid R7
        clear M5 hzu hz6 A7 R7 A6 R6 M6 D6 z0 z1 z2 z3 z4 m2 m5
        go_wp2_with fail
        go_roundw
        case rel => exact ⟨k + 1, S6, T6, by omega, by go_num, by rw [HG1.out]; exact hA7.out, by rw [HG1.out]; exact hR7.out, D7, hZ7, hZt7, b7⟩
        case measure => simp [intOf]; omega
    · obtain rfl : k = N := by omega
      clear HOK HAS HS HNl A R
      go_wp2_with fail
      refine (K7.out _).mono ?_
      rintro e w8 ⟨rfl, h8⟩
      go_wp2_with fail
      go_ret
      exact ⟨rfl, hb.trans (h8.mono hb.size)⟩
theorem groupPlays_law (p g0 n0 : Int) (st : Bool) (l : List Gd) (a : Option Addr) (c : Nat) (w : World) (hp : (Lit.int .i64 p).wf = true) (hg : (Lit.int .i64 g0).wf = true) (hn : (Lit.int .i64 n0).wf = true) (hl : Sl w w.heap.size a (gdCells l)) (hi : ∀ r ∈ l, GdI r) (hc : (a = none → c = 0) ∧ l.length ≤ c ∧ c ≤ maxLen) :
    Calls Try.prog 3 #[.agg #[.int .i64 p, .int .i64 g0, .int .i64 n0, .bool st], .slice a l.length c] w fun e w' => e = .returned (.bool true) ∧ Below w.heap.size w w' := by
  cases h : newOk p g0 n0 with
  | false => exact plays_bad p g0 n0 st l.length c a w h
  | true =>
    obtain ⟨P, rfl⟩ := plays_new h
    exact plays_good P g0 n0 st l l.length c a w h rfl hl hc.2
end Go.Proofs.Ytocmhmfaehnliaa
