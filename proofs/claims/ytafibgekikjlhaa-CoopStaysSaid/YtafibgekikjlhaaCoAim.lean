/- The walk of headgatelaw35.aimed. -/
import Derived.Test.YtafibgekikjlhaaCoSome
namespace Go.Proofs.Ytafibgekikjlhaa
open Go.RowKit Vm As
set_option linter.unusedVariables false
set_option linter.unusedSimpArgs false

def cdV (x : Cd) : Value := .agg #[.int .i64 x.k, .int .i64 x.m, .int .i64 x.p, .bool x.n, .slice x.a x.l.length x.c]
def cdC (x : Cd) : Array Value := #[.int .i64 x.k, .int .i64 x.m, .int .i64 x.p, .bool x.n, .slice x.a x.l.length x.c]
def pickN (a : Int) (n : Nat) : Nat := ((a.tmod n + n).tmod n).toNat
theorem pickN_is (a : Int) (n : Nat) (hn : 0 < n) : (a.tmod n + n).tmod n = ((pickN a n : Nat) : Int) ∧ pickN a n < n ∧ -(n : Int) < a.tmod n ∧ a.tmod n < n := by
  have h1 : (0 : Int) < n := by omega
  have h2 := Int.lt_tmod_of_pos a h1
  have h3 := Int.tmod_lt_of_pos a h1
  have h4 : 0 ≤ (a.tmod n + n).tmod n := Int.tmod_nonneg _ (by omega)
  have h5 := Int.tmod_lt_of_pos (a.tmod n + n) h1
  unfold pickN
  exact ⟨by omega, by omega, h2, h3⟩
def aimNo (x : Cd) (C : Co) : Prop := x.n = false ∨ C.M.length = 0 ∨ x.k < 2
instance (x : Cd) (C : Co) : Decidable (aimNo x C) := by unfold aimNo; infer_instance
def aimM (x : Cd) (C : Co) : Int := C.M.getD (pickN x.m C.M.length) 0
def aimP (x : Cd) (L : List Int) : Int := if L.length = 0 then x.p else L.getD (pickN x.p L.length) 0
def aimF (x : Cd) (C : Co) : Cd := if aimNo x C then x else { x with m := aimM x C, p := aimP x (revL C (aimM x C)) }
theorem res_cd (tmps : Array Value) (r : Nat) (w : World) (x : Cd) (h : tmps.getD 4 undef = .pointer (some ⟨r, 0, none⟩)) (hw : Whole w r 41 (cdC x)) :
    (results Try.f18 tmps).run Try.prog w = .ok (cdV x) w :=
  results_cell_row rfl tmps w r _ (cdC x) (0, 0) _ h hw Try.underlying41 rfl (by kernel_rfl)
def AimPost (v : Cd) (w : World) (e : Ending) (w' : World) : Prop := e = .returned (cdV v) ∧ Below w.heap.size w w'
/-- A store into a block that lies behind the coop's own. -/
theorem CA.set_far {w0 w : World} {g p : Nat} {C : Co} {S : Nat → Prop} (h : CA w g C S) (hp : ¬ S p) (j : Nat) (u : Value) : CA (w.setCell ⟨p, j, none⟩ u) g C S := by
  obtain ⟨a, ca, b, cb, d, cd, h, rfl⟩ := h
  exact ⟨a, ca, b, cb, d, cd, ⟨h.box.far p j u (fun e => hp (.inl e.symm)), own_set h.rowM (fun x hx e => hp (.inr (.inl ⟨x, hx, e⟩))) j u, own_set h.rowH (fun x hx e => hp (.inr (.inr (.inl ⟨x, hx, e⟩)))) j u, own_set h.rowW (fun x hx e => hp (.inr (.inr (.inr ⟨x, hx, e⟩)))) j u, h.mh, h.mw, h.hw⟩, rfl⟩
set_option maxRecDepth 100000 in
set_option maxHeartbeats 4000000 in
theorem aimed_no (K : Nat) (x : Cd) (C : Co) (g : Nat) (S : Nat → Prop) (w : World) (hok : COk C K) (hA : CA w g C S) (h : aimNo x C) :
    Calls Try.prog 18 #[cdV x, .pointer (some ⟨g, 0, none⟩)] w (AimPost x w) := by
  unfold AimPost aimNo at *
  have h' : x.n = false ∨ (x.n = true ∧ C.M.length = 0) ∨ (x.n = true ∧ C.M.length ≠ 0 ∧ x.k < 2) := by
    cases hxn : x.n
    · exact .inl rfl
    · rw [hxn] at h
      rcases h with h | h | h
      · cases h
      · exact .inr (.inl ⟨rfl, h⟩)
      · by_cases hk : C.M.length = 0
        · exact .inr (.inl ⟨rfl, hk⟩)
        · exact .inr (.inr ⟨rfl, hk, h⟩)
  clear h
  have hX0 := Whole.new w 41 (cdC x)
  have hal := balloc w (.cells (cdC x) 41)
  have hR0 := Whole.new (w.alloc (.cells (cdC x) 41)) 41 #[.int .i64 0, .int .i64 0, .int .i64 0, .bool false, .slice none 0 0]
  have hal2 := balloc (w.alloc (.cells (cdC x) 41)) (.cells #[.int .i64 0, .int .i64 0, .int .i64 0, .bool false, .slice none 0 0] 41)
  have hX1 := hX0.keep hal2
  have hB := gtrans hal hal2
  have hz : (w.alloc (.cells (cdC x) 41)).heap.size = w.heap.size + 1 := by simp
  rw [hz] at hR0
  have A1 := hA.keep hB
  have KM := Lib.hid (fun w' h => cmembers_ca K C g S w' hok h)
  unfold RowQ at KM
  obtain ⟨N, hN⟩ : ∃ N, C.M.length = N := ⟨_, rfl⟩
  have hNm : N ≤ 8 := by have := hok.b.ml; omega
  rw [hN] at KM
  have HN := Lib.hid hN
  obtain ⟨k, m, p, nn, xl, xa, xc⟩ := x
  obtain ⟨Q, hQ⟩ : ∃ Q, xl.length = Q := ⟨_, rfl⟩
  have HQ := Lib.hid hQ
  unfold cdV cdC at *
  simp only at *
  simp only [hQ] at hX0 hal hR0 hal2 hX1 hB A1 ⊢
  rw [hN] at h'
  clear hal hal2 hX0 hz hA hN hQ hok
  rcases h' with h1 | ⟨h1, h2⟩ | ⟨h1, h2, h3⟩
  · subst h1
    go_enter Try.func18, Try.ntmps18
    go_upto_region 1 with fail
    obtain ⟨w1, hw1⟩ : ∃ w1, w1 = (w.alloc (.cells #[.int .i64 k, .int .i64 m, .int .i64 p, .bool false, .slice xa Q xc] 41)).alloc (.cells #[.int .i64 0, .int .i64 0, .int .i64 0, .bool false, .slice none 0 0] 41) := ⟨_, rfl⟩
    rw [← hw1] at hR0 hX1 hB A1 ⊢
    clear hw1
    have KK := Lib.hid (KM.out w1 A1)
    have HR := Lib.hid hR0
    have HX := Lib.hid hX1
    clear hR0 hX1 KM
    go_wp2_with fail
    refine KK.out.mono ?_
    rintro e w2 ⟨a2, c2, rfl, p2, b2⟩
    have X2 := HX.out.keep b2
    have R2 := HR.out.keep b2
    have B2 := gtrans hB b2
    have A2 := A1.keep b2
    clear KK HX HR
    obtain ⟨r0, r1, r2, r3, r4, ⟨f0, f1, f2, f3, f4⟩, rl⟩ := R2.five
    obtain ⟨x0, x1, x2, x3, x4, xf, xlt⟩ := X2.five
    obtain ⟨W, B⟩ := st5 R2 (.int .i64 k) (.int .i64 m) (.int .i64 p) (.bool false) (.slice xa Q xc)
    have HW := Lib.hid W
    have HBB := Lib.hid (B2.trans (B w.heap.size (by omega)))
    clear W B R2 X2 B2 xf
    go_wp2_with fail
    have HW2 := HW.out
    have HB2 := HBB.out
    rw [← HQ.out] at HW2 HB2 ⊢
    refine bodyPost_ret (res_cd _ (w.heap.size + 1) _ ⟨k, m, p, false, xl, xa, xc⟩ rfl HW2) rfl ?_
    exact ⟨rfl, HB2⟩
  · subst h1
    subst h2
    go_enter Try.func18, Try.ntmps18
    go_upto_region 1 with fail
    obtain ⟨w1, hw1⟩ : ∃ w1, w1 = (w.alloc (.cells #[.int .i64 k, .int .i64 m, .int .i64 p, .bool true, .slice xa Q xc] 41)).alloc (.cells #[.int .i64 0, .int .i64 0, .int .i64 0, .bool false, .slice none 0 0] 41) := ⟨_, rfl⟩
    rw [← hw1] at hR0 hX1 hB A1 ⊢
    clear hw1
    have KK := Lib.hid (KM.out w1 A1)
    have HR := Lib.hid hR0
    have HX := Lib.hid hX1
    clear hR0 hX1 KM
    go_wp2_with fail
    refine KK.out.mono ?_
    rintro e w2 ⟨a2, c2, rfl, p2, b2⟩
    have X2 := HX.out.keep b2
    have R2 := HR.out.keep b2
    have B2 := gtrans hB b2
    have A2 := A1.keep b2
    clear KK HX HR
    obtain ⟨r0, r1, r2, r3, r4, ⟨f0, f1, f2, f3, f4⟩, rl⟩ := R2.five
    obtain ⟨x0, x1, x2, x3, x4, xf, xlt⟩ := X2.five
    obtain ⟨W, B⟩ := st5 R2 (.int .i64 k) (.int .i64 m) (.int .i64 p) (.bool true) (.slice xa Q xc)
    have HW := Lib.hid W
    have HBB := Lib.hid (B2.trans (B w.heap.size (by omega)))
    clear W B R2 X2 B2 xf
    go_wp2_with fail
    have HW2 := HW.out
    have HB2 := HBB.out
    rw [← HQ.out] at HW2 HB2 ⊢
    refine bodyPost_ret (res_cd _ (w.heap.size + 1) _ ⟨k, m, p, true, xl, xa, xc⟩ rfl HW2) rfl ?_
    exact ⟨rfl, HB2⟩
  · subst h1
    have g1 : ((N : Int) == 0) = false := beq_eq_false_iff_ne.2 (by omega)
    go_enter Try.func18, Try.ntmps18
    go_upto_region 1 with fail
    obtain ⟨w1, hw1⟩ : ∃ w1, w1 = (w.alloc (.cells #[.int .i64 k, .int .i64 m, .int .i64 p, .bool true, .slice xa Q xc] 41)).alloc (.cells #[.int .i64 0, .int .i64 0, .int .i64 0, .bool false, .slice none 0 0] 41) := ⟨_, rfl⟩
    rw [← hw1] at hR0 hX1 hB A1 ⊢
    clear hw1
    have KK := Lib.hid (KM.out w1 A1)
    have HR := Lib.hid hR0
    have HX := Lib.hid hX1
    clear hR0 hX1 KM
    go_wp2_with fail
    refine KK.out.mono ?_
    rintro e w2 ⟨a2, c2, rfl, p2, b2⟩
    have X2 := HX.out.keep b2
    have R2 := HR.out.keep b2
    have B2 := gtrans hB b2
    have A2 := A1.keep b2
    clear KK HX HR
    obtain ⟨r0, r1, r2, r3, r4, ⟨f0, f1, f2, f3, f4⟩, rl⟩ := R2.five
    obtain ⟨x0, x1, x2, x3, x4, xf, xlt⟩ := X2.five
    obtain ⟨W, B⟩ := st5 R2 (.int .i64 k) (.int .i64 m) (.int .i64 p) (.bool true) (.slice xa Q xc)
    have HW := Lib.hid W
    have HBB := Lib.hid (B2.trans (B w.heap.size (by omega)))
    clear W B R2 X2 B2 xf
    go_wp2_with fail
    have HW2 := HW.out
    have HB2 := HBB.out
    rw [← HQ.out] at HW2 HB2 ⊢
    refine bodyPost_ret (res_cd _ (w.heap.size + 1) _ ⟨k, m, p, true, xl, xa, xc⟩ rfl HW2) rfl ?_
    exact ⟨rfl, HB2⟩
set_option maxRecDepth 100000 in
set_option maxHeartbeats 4000000 in
theorem aimed_yes (K : Nat) (x : Cd) (C : Co) (g : Nat) (S : Nat → Prop) (w : World) (hok : COk C K) (hA : CA w g C S) (h : ¬ aimNo x C) :
    Calls Try.prog 18 #[cdV x, .pointer (some ⟨g, 0, none⟩)] w (AimPost { x with m := aimM x C, p := aimP x (revL C (aimM x C)) } w) := by
  unfold AimPost aimNo at *
  have HLv := Lib.hid hA.live
  have h1 : x.n = true := by
    cases hxn : x.n
    · exact absurd (.inl hxn) h
    · rfl
  have h2 : 0 < C.M.length := by
    rcases Nat.eq_zero_or_pos C.M.length with h0 | h0
    · exact absurd (.inr (.inl h0)) h
    · exact h0
  have h3 : ¬ x.k < 2 := fun hk => h (.inr (.inr hk))
  clear h
  have KR := Lib.hid (fun w' m h => revoke_ca K m C g S w' hok h)
  unfold RevQ at KR
  obtain ⟨hq, hq2, hq3, hq4⟩ := pickN_is x.m C.M.length h2
  have hMm : aimM x C = C.M.getD (pickN x.m C.M.length) 0 := rfl
  have hPp : aimP x (revL C (aimM x C)) = if (revL C (aimM x C)).length = 0 then x.p else (revL C (aimM x C)).getD (pickN x.p (revL C (aimM x C)).length) 0 := rfl
  have hRl : (revL C (aimM x C)).length ≤ 16 := by
    have := hok.b.h1
    unfold revL
    split
    · have := revTo_len C (aimM x C) C.H.length; omega
    · simp
  have hX0 := Whole.new w 41 (cdC x)
  have hal := balloc w (.cells (cdC x) 41)
  have hR0 := Whole.new (w.alloc (.cells (cdC x) 41)) 41 #[.int .i64 0, .int .i64 0, .int .i64 0, .bool false, .slice none 0 0]
  have hal2 := balloc (w.alloc (.cells (cdC x) 41)) (.cells #[.int .i64 0, .int .i64 0, .int .i64 0, .bool false, .slice none 0 0] 41)
  have hX1 := hX0.keep hal2
  have hB := gtrans hal hal2
  have hz : (w.alloc (.cells (cdC x) 41)).heap.size = w.heap.size + 1 := by simp
  rw [hz] at hR0
  have A1 := hA.keep hB
  have KM := Lib.hid (fun w' h => cmembers_ca K C g S w' hok h)
  unfold RowQ at KM
  obtain ⟨N, hN⟩ : ∃ N, C.M.length = N := ⟨_, rfl⟩
  have hNm : N ≤ 8 := by have := hok.b.ml; omega
  rw [hN] at KM
  have HN := Lib.hid hN
  obtain ⟨k, m, p, nn, xl, xa, xc⟩ := x
  obtain ⟨Q, hQ⟩ : ∃ Q, xl.length = Q := ⟨_, rfl⟩
  have HQ := Lib.hid hQ
  unfold cdV cdC at *
  simp only at *
  simp only [hQ] at hX0 hal hR0 hal2 hX1 hB A1 ⊢
  subst h1
  obtain ⟨M, hM⟩ : ∃ M, aimM ⟨k, m, p, true, xl, xa, xc⟩ C = M := ⟨_, rfl⟩
  rw [hM] at hMm hPp hRl ⊢
  obtain ⟨L, hL⟩ : ∃ L, revL C M = L := ⟨_, rfl⟩
  rw [hL] at hPp hRl ⊢
  have KRM := Lib.hid (fun w' h => KR.out w' M h)
  rw [hL] at KRM
  generalize revE C M = RE at KRM
  obtain ⟨P, hP⟩ : ∃ P, aimP ⟨k, m, p, true, xl, xa, xc⟩ L = P := ⟨_, rfl⟩
  rw [hP] at hPp ⊢
  have hp0 := pickN_is p L.length
  rw [hN] at h2 hq hq2 hq3 hq4 hMm
  obtain ⟨j, hj⟩ : ∃ j, pickN m N = j := ⟨_, rfl⟩
  rw [hj] at hq hq2 hMm
  have HM := Lib.hid hMm
  have HP := Lib.hid hPp
  have HP0 := Lib.hid hp0
  obtain ⟨D, hD⟩ : ∃ D, L.length = D := ⟨_, rfl⟩
  rw [hD] at hRl HP HP0 KRM
  have HD := Lib.hid hD
  clear hal hal2 hX0 hz hA hN hQ hok hMm hPp hp0 hM hL hP hD hj KR
  have g1 : ((N : Int) == 0) = false := beq_eq_false_iff_ne.2 (by omega)
  have g2 : (N : Int) ≠ 0 := by omega
  have HH := Lib.hid (And.intro hq (And.intro hq2 (And.intro hq3 hq4)))
  clear hq hq2 hq3 hq4
  · skip
    go_enter Try.func18, Try.ntmps18
    go_upto_region 1 with fail
    obtain ⟨w1, hw1⟩ : ∃ w1, w1 = (w.alloc (.cells #[.int .i64 k, .int .i64 m, .int .i64 p, .bool true, .slice xa Q xc] 41)).alloc (.cells #[.int .i64 0, .int .i64 0, .int .i64 0, .bool false, .slice none 0 0] 41) := ⟨_, rfl⟩
    rw [← hw1] at hR0 hX1 hB A1 ⊢
    clear hw1
    have KK := Lib.hid (KM.out w1 A1)
    have HR := Lib.hid hR0
    have HX := Lib.hid hX1
    clear hR0 hX1 KM
    go_wp2_with fail
    refine KK.out.mono ?_
    rintro e w2 ⟨a2, c2, rfl, p2, b2⟩
    have X2 := HX.out.keep b2
    have R2 := HR.out.keep b2
    have B2 := gtrans hB b2
    have A2 := A1.keep b2
    clear KK HX HR
    obtain ⟨x0, x1, x2, x3, x4, ⟨e0, e1, e2, e3, e4⟩, xlt⟩ := X2.five
    have hsm := p2.1
    obtain ⟨b1, o1, rfl, hb1, hc1⟩ := hsm.ints (by rw [HN.out]; exact h2)
    have rr := hc1 j (by rw [HN.out]; exact HH.out.2.1)
    rw [← HM.out] at rr
    have W3 := X2.set 1 (.int .i64 M)
    simp only [List.setIfInBounds_toArray, List.set_cons_zero, List.set_cons_succ] at W3
    have R3 := R2.far w.heap.size 1 (.int .i64 M) (by omega)
    have B3 := B2.setCell (p := ⟨w.heap.size, 1, none⟩) (Nat.le_refl _) (.int .i64 M)
    have A3 : CA (w2.setCell ⟨w.heap.size, 1, none⟩ (.int .i64 M)) g C S := A2.set_far (w0 := w) (fun hS => by have := HLv.out _ hS; omega) 1 _
    clear hsm hc1
    go_upto_region 4 with fail
    have hj0 : 0 ≤ (j : Int) := by omega
    have hjn : (j : Int) < (N : Int) := by have := HH.out.2.1; omega
    have hq := HH.out.1
    have hw : IntKind.i64.wrap (m.tmod N + N) = m.tmod N + N := IntWalk.i64_in _ (by have := HH.out.2.2; omega)
    have HQ1 := Lib.hid hq
    go_upto_region 5 with fail
    obtain ⟨w3, hw3⟩ : ∃ w3, w3 = w2.setCell ⟨w.heap.size, 1, none⟩ (.int .i64 M) := ⟨_, rfl⟩
    rw [← hw3] at W3 R3 B3 A3 ⊢
    clear hw3 x0 x1 x2 x3 x4 e0 e1 e2 e3 e4 rr X2 R2 B2 A2 hw hq hb1 p2
    obtain ⟨x0, x1, x2, x3, x4, ⟨e0, e1, e2, e3, e4⟩, xlt⟩ := W3.five
    have KK := Lib.hid (KRM.out w3 A3)
    clear KRM
    go_wp2_with fail
    refine KK.out.mono ?_
    rintro e w4 ⟨a4, c4, rfl, p4, b4⟩
    have X4 := W3.keep b4
    have R4 := R3.keep b4
    have B4 := gtrans B3 b4
    clear KK x0 x1 x2 x3 x4 e0 e1 e2 e3 e4 W3 R3 B3 A3
    rcases Nat.eq_zero_or_pos D with hD0 | hD0
    · subst hD0
      have hPP : P = p := by rw [HP.out, if_pos rfl]
      subst hPP
      obtain ⟨r0, r1, r2, r3, r4, ⟨f0, f1, f2, f3, f4⟩, rl⟩ := R4.five
      obtain ⟨x0, x1, x2, x3, x4, xf, xlt⟩ := X4.five
      obtain ⟨W, B⟩ := st5 R4 (.int .i64 k) (.int .i64 M) (.int .i64 P) (.bool true) (.slice xa Q xc)
      have HW := Lib.hid W
      have HBB := Lib.hid (B4.trans (B w.heap.size (by omega)))
      clear W B R4 X4 B4 xf
      go_wp2_with fail
      have HW2 := HW.out
      have HB2 := HBB.out
      rw [← HQ.out] at HW2 HB2 ⊢
      refine bodyPost_ret (res_cd _ (w.heap.size + 1) _ ⟨k, M, P, true, xl, xa, xc⟩ rfl HW2) rfl ?_
      exact ⟨rfl, HB2⟩
    · obtain ⟨hq, hq2, hq3, hq4⟩ := HP0.out hD0
      have hPP := HP.out
      rw [if_neg (by omega)] at hPP
      generalize pickN p D = i at *
      obtain ⟨x0, x1, x2, x3, x4, ⟨e0, e1, e2, e3, e4⟩, xlt⟩ := X4.five
      have hsm := p4.1
      obtain ⟨b1, o1, rfl, hb1, hc1⟩ := hsm.ints (by rw [HD.out]; exact hD0)
      have rr := hc1 i (by rw [HD.out]; exact hq2)
      rw [← hPP] at rr
      have W5 := X4.set 2 (.int .i64 P)
      simp only [List.setIfInBounds_toArray, List.set_cons_zero, List.set_cons_succ] at W5
      have R5 := R4.far w.heap.size 2 (.int .i64 P) (by omega)
      have B5 := B4.setCell (p := ⟨w.heap.size, 2, none⟩) (Nat.le_refl _) (.int .i64 P)
      have g3 : (D : Int) ≠ 0 := by omega
      have g4 : (0 : Int) < (D : Int) := by omega
      have HQ3 := Lib.hid (And.intro hq hq2)
      have hw : IntKind.i64.wrap (p.tmod D + D) = p.tmod D + D := IntWalk.i64_in _ (by omega)
      have HWW := Lib.hid hw
      clear hsm hc1 hPP hq hq2 hq3 hq4 hw HH
      go_upto_region 7 with fail
      have hi0 : 0 ≤ (i : Int) := by omega
      have hin : (i : Int) < (D : Int) := by have := HQ3.out.2; omega
      have hq := HQ3.out.1
      have hw := HWW.out
      go_upto_region 8 with fail
      obtain ⟨w5, hw5⟩ : ∃ w5, w5 = w4.setCell ⟨w.heap.size, 2, none⟩ (.int .i64 P) := ⟨_, rfl⟩
      rw [← hw5] at W5 R5 B5 ⊢
      clear hw5 x0 x1 x2 x3 x4 e0 e1 e2 e3 e4 rr X4 R4 B4 hw hq hb1 p4
      obtain ⟨r0, r1, r2, r3, r4, ⟨f0, f1, f2, f3, f4⟩, rl⟩ := R5.five
      obtain ⟨x0, x1, x2, x3, x4, xf, xlt⟩ := W5.five
      obtain ⟨W, B⟩ := st5 R5 (.int .i64 k) (.int .i64 M) (.int .i64 P) (.bool true) (.slice xa Q xc)
      have HW := Lib.hid W
      have HBB := Lib.hid (B5.trans (B w.heap.size (by omega)))
      clear W B R5 W5 B5 xf
      go_wp2_with fail
      have HW2 := HW.out
      have HB2 := HBB.out
      rw [← HQ.out] at HW2 HB2 ⊢
      refine bodyPost_ret (res_cd _ (w.heap.size + 1) _ ⟨k, M, P, true, xl, xa, xc⟩ rfl HW2) rfl ?_
      exact ⟨rfl, HB2⟩
theorem aimed35_walk (K : Nat) (x : Cd) (C : Co) (g : Nat) (S : Nat → Prop) (w : World) (hok : COk C K) (hA : CA w g C S) :
    Calls Try.prog 18 #[cdV x, .pointer (some ⟨g, 0, none⟩)] w (AimPost (aimF x C) w) := by
  by_cases h : aimNo x C
  · rw [show aimF x C = x from if_pos h]
    exact aimed_no K x C g S w hok hA h
  · rw [show aimF x C = _ from if_neg h]
    exact aimed_yes K x C g S w hok hA h
end Go.Proofs.Ytafibgekikjlhaa
