/- The walk of headgatelaw10.aimed. -/
import Derived.Test.YtocmhmfaehnliaaGrLaw
import Derived.Test.YtocmhmfaehnliaaGd
import Derived.Laws.Rows
import Derived.Deep.Cut
namespace Go.Proofs.Ytocmhmfaehnliaa
open Go.RowKit Vm As
set_option linter.unusedVariables false
set_option linter.unusedSimpArgs false

def gdV (x : Gd) : Value := .agg #[.int .i64 x.k, .int .i64 x.a, .int .i64 x.b, .int .i64 x.p, .bool x.n]
def gdC (x : Gd) : Array Value := #[.int .i64 x.k, .int .i64 x.a, .int .i64 x.b, .int .i64 x.p, .bool x.n]
def pickN (a : Int) (n : Nat) : Nat := ((a.tmod n + n).tmod n).toNat
theorem pickN_is (a : Int) (n : Nat) (hn : 0 < n) : (a.tmod n + n).tmod n = ((pickN a n : Nat) : Int) ∧ pickN a n < n ∧ -(n : Int) < a.tmod n ∧ a.tmod n < n := by
  have h1 : (0 : Int) < n := by omega
  have h2 := Int.lt_tmod_of_pos a h1
  have h3 := Int.tmod_lt_of_pos a h1
  have h4 : 0 ≤ (a.tmod n + n).tmod n := Int.tmod_nonneg _ (by omega)
  have h5 := Int.tmod_lt_of_pos (a.tmod n + n) h1
  unfold pickN
  exact ⟨by omega, by omega, h2, h3⟩
def aimNo (x : Gd) (L : List Mb) : Prop := x.n = false ∨ x.k < 2 ∨ L.length = 0
instance (x : Gd) (L : List Mb) : Decidable (aimNo x L) := by unfold aimNo; infer_instance
def aimF (x : Gd) (L : List Mb) (gen : Int) : Gd := if aimNo x L then x else { x with a := (L.getD (pickN x.a L.length) mb0).i, b := gen }
theorem res_gd (tmps : Array Value) (r : Nat) (w : World) (x : Gd) (h : tmps.getD 6 undef = .pointer (some ⟨r, 0, none⟩)) (hw : Whole w r 36 (gdC x)) :
    (results Try.f14 tmps).run Try.prog w = .ok (gdV x) w :=
  results_cell_row rfl tmps w r _ (gdC x) (0, 0) _ h hw Try.underlying36 rfl (by kernel_rfl)
theorem Whole.five {w : World} {g : Nat} {t : TypeId} {a b c d e : Value} (h : Whole w g t #[a, b, c, d, e]) : w.cell? ⟨g, 0, none⟩ = some a ∧ w.cell? ⟨g, 1, none⟩ = some b ∧ w.cell? ⟨g, 2, none⟩ = some c ∧ w.cell? ⟨g, 3, none⟩ = some d ∧ w.cell? ⟨g, 4, none⟩ = some e ∧ (w.frozen? ⟨g, 0, none⟩ = false ∧ w.frozen? ⟨g, 1, none⟩ = false ∧ w.frozen? ⟨g, 2, none⟩ = false ∧ w.frozen? ⟨g, 3, none⟩ = false ∧ w.frozen? ⟨g, 4, none⟩ = false) ∧ g < w.heap.size :=
  ⟨h.cell 0, h.cell 1, h.cell 2, h.cell 3, h.cell 4, ⟨h.frozen 0, h.frozen 1, h.frozen 2, h.frozen 3, h.frozen 4⟩, h.lt⟩
theorem st5 {w : World} {A : Nat} {t : TypeId} {a b c d e : Value} (h : Whole w A t #[a, b, c, d, e]) (x y z u v : Value) :
    Whole (((((w.setCell ⟨A, 0, none⟩ x).setCell ⟨A, 1, none⟩ y).setCell ⟨A, 2, none⟩ z).setCell ⟨A, 3, none⟩ u).setCell ⟨A, 4, none⟩ v) A t #[x, y, z, u, v] ∧
      ∀ C, C ≤ A → Below C w (((((w.setCell ⟨A, 0, none⟩ x).setCell ⟨A, 1, none⟩ y).setCell ⟨A, 2, none⟩ z).setCell ⟨A, 3, none⟩ u).setCell ⟨A, 4, none⟩ v) := by
  refine ⟨?_, fun C hC => (((((Below.refl C w).setCell (p := ⟨A, 0, none⟩) hC x).setCell (p := ⟨A, 1, none⟩) hC y).setCell (p := ⟨A, 2, none⟩) hC z).setCell (p := ⟨A, 3, none⟩) hC u).setCell (p := ⟨A, 4, none⟩) hC v⟩
  have h3 := ((((h.set 0 x).set 1 y).set 2 z).set 3 u).set 4 v
  simpa using h3
def AimPost (v : Gd) (w : World) (e : Ending) (w' : World) : Prop := e = .returned (gdV v) ∧ Below w.heap.size w w'
set_option maxRecDepth 100000 in
set_option maxHeartbeats 4000000 in
theorem aimed_no (x : Gd) (L : List Mb) (gen : Int) (n : Nat) (a : Option Addr) (c : Nat) (w : World) (hn : L.length = n) (h : aimNo x L) :
    Calls Try.prog 14 #[gdV x, .slice a n c, .int .i64 gen] w (AimPost x w) := by
  unfold aimNo at h
  rw [hn] at h
  clear hn
  have h' : x.n = false ∨ (x.n = true ∧ x.k < 2) ∨ (x.n = true ∧ ¬ x.k < 2 ∧ n = 0) := by
    cases hxn : x.n
    · exact .inl rfl
    · rw [hxn] at h
      rcases h with h | h | h
      · cases h
      · exact .inr (.inl ⟨rfl, h⟩)
      · by_cases hk : x.k < 2
        · exact .inr (.inl ⟨rfl, hk⟩)
        · exact .inr (.inr ⟨rfl, hk, h⟩)
  clear h
  have hX0 := Whole.new w 36 (gdC x)
  have hal := balloc w (.cells (gdC x) 36)
  have hR0 := Whole.new (w.alloc (.cells (gdC x) 36)) 36 #[.int .i64 0, .int .i64 0, .int .i64 0, .int .i64 0, .bool false]
  have hal2 := balloc (w.alloc (.cells (gdC x) 36)) (.cells #[.int .i64 0, .int .i64 0, .int .i64 0, .int .i64 0, .bool false] 36)
  have hX1 := hX0.keep hal2
  have hB := gtrans hal hal2
  have hz : (w.alloc (.cells (gdC x) 36)).heap.size = w.heap.size + 1 := by simp
  rw [hz] at hR0
  obtain ⟨k, q, b, p, nn⟩ := x
  unfold gdC at *
  simp only at *
  clear hal hal2 hX0 hz
  rcases h' with h1 | ⟨h1, h2⟩ | ⟨h1, h2, h3⟩
  · subst h1
    unfold gdV
    simp only
    go_enter Try.func14, Try.ntmps14
    go_upto_region 1 with fail
    obtain ⟨w1, hw1⟩ : ∃ w1, w1 = (w.alloc (.cells #[.int .i64 k, .int .i64 q, .int .i64 b, .int .i64 p, .bool false] 36)).alloc (.cells #[.int .i64 0, .int .i64 0, .int .i64 0, .int .i64 0, .bool false] 36) := ⟨_, rfl⟩
    rw [← hw1] at hR0 hX1 hB ⊢
    clear hw1
    obtain ⟨x0, x1, x2, x3, x4, xf, xl⟩ := hX1.five
    obtain ⟨r0, r1, r2, r3, r4, ⟨f0, f1, f2, f3, f4⟩, rl⟩ := hR0.five
    obtain ⟨W, B⟩ := st5 hR0 (.int .i64 k) (.int .i64 q) (.int .i64 b) (.int .i64 p) (.bool false)
    have HW := Lib.hid W
    have HBB := Lib.hid (hB.trans (B w.heap.size (by omega)))
    clear W B hR0 hX1 hB xf
    go_wp2_with fail
    refine bodyPost_ret (res_gd _ (w.heap.size + 1) _ ⟨k, q, b, p, false⟩ rfl HW.out) rfl ?_
    exact ⟨rfl, HBB.out⟩
  · subst h1
    unfold gdV
    simp only
    go_enter Try.func14, Try.ntmps14
    go_upto_region 1 with fail
    obtain ⟨w1, hw1⟩ : ∃ w1, w1 = (w.alloc (.cells #[.int .i64 k, .int .i64 q, .int .i64 b, .int .i64 p, .bool true] 36)).alloc (.cells #[.int .i64 0, .int .i64 0, .int .i64 0, .int .i64 0, .bool false] 36) := ⟨_, rfl⟩
    rw [← hw1] at hR0 hX1 hB ⊢
    clear hw1
    obtain ⟨x0, x1, x2, x3, x4, xf, xl⟩ := hX1.five
    obtain ⟨r0, r1, r2, r3, r4, ⟨f0, f1, f2, f3, f4⟩, rl⟩ := hR0.five
    obtain ⟨W, B⟩ := st5 hR0 (.int .i64 k) (.int .i64 q) (.int .i64 b) (.int .i64 p) (.bool true)
    have HW := Lib.hid W
    have HBB := Lib.hid (hB.trans (B w.heap.size (by omega)))
    clear W B hR0 hX1 hB xf
    go_wp2_with fail
    refine bodyPost_ret (res_gd _ (w.heap.size + 1) _ ⟨k, q, b, p, true⟩ rfl HW.out) rfl ?_
    exact ⟨rfl, HBB.out⟩
  · subst h1
    unfold gdV
    simp only
    go_enter Try.func14, Try.ntmps14
    go_upto_region 1 with fail
    obtain ⟨w1, hw1⟩ : ∃ w1, w1 = (w.alloc (.cells #[.int .i64 k, .int .i64 q, .int .i64 b, .int .i64 p, .bool true] 36)).alloc (.cells #[.int .i64 0, .int .i64 0, .int .i64 0, .int .i64 0, .bool false] 36) := ⟨_, rfl⟩
    rw [← hw1] at hR0 hX1 hB ⊢
    clear hw1
    obtain ⟨x0, x1, x2, x3, x4, xf, xl⟩ := hX1.five
    obtain ⟨r0, r1, r2, r3, r4, ⟨f0, f1, f2, f3, f4⟩, rl⟩ := hR0.five
    obtain ⟨W, B⟩ := st5 hR0 (.int .i64 k) (.int .i64 q) (.int .i64 b) (.int .i64 p) (.bool true)
    have HW := Lib.hid W
    have HBB := Lib.hid (hB.trans (B w.heap.size (by omega)))
    clear W B hR0 hX1 hB xf
    go_wp2_with fail
    refine bodyPost_ret (res_gd _ (w.heap.size + 1) _ ⟨k, q, b, p, true⟩ rfl HW.out) rfl ?_
    exact ⟨rfl, HBB.out⟩
set_option maxRecDepth 100000 in
set_option maxHeartbeats 4000000 in
theorem aimed_yes (x : Gd) (L : List Mb) (gen : Int) (n : Nat) (a : Option Addr) (c : Nat) (w : World) (hn : L.length = n) (hnm : n ≤ 1000) (h : ¬ aimNo x L) (hs : Sl w w.heap.size a (mbCells L)) :
    Calls Try.prog 14 #[gdV x, .slice a n c, .int .i64 gen] w (AimPost { x with a := (L.getD (pickN x.a n) mb0).i, b := gen } w) := by
  unfold aimNo at h
  rw [hn] at h
  have h1 : x.n = true := by
    cases hxn : x.n
    · exact absurd (.inl hxn) h
    · rfl
  have h2 : ¬ x.k < 2 := fun hk => h (.inr (.inl hk))
  have h3 : 0 < n := by
    rcases Nat.eq_zero_or_pos n with h0 | h0
    · exact absurd (.inr (.inr h0)) h
    · exact h0
  clear h
  obtain ⟨hq, hq2, hq3, hq4⟩ := pickN_is x.a n h3
  have hX0 := Whole.new w 36 (gdC x)
  have hal := balloc w (.cells (gdC x) 36)
  have hR0 := Whole.new (w.alloc (.cells (gdC x) 36)) 36 #[.int .i64 0, .int .i64 0, .int .i64 0, .int .i64 0, .bool false]
  have hal2 := balloc (w.alloc (.cells (gdC x) 36)) (.cells #[.int .i64 0, .int .i64 0, .int .i64 0, .int .i64 0, .bool false] 36)
  have hX1 := hX0.keep hal2
  have hB := gtrans hal hal2
  have hS := (hs.below hB (Nat.le_refl _)).grow hB.size
  have hz : (w.alloc (.cells (gdC x) 36)).heap.size = w.heap.size + 1 := by simp
  rw [hz] at hR0
  have hnl := h3
  obtain ⟨b1, o1, rfl, hb1, hc⟩ := hS.mb (by omega)
  obtain ⟨rr, _, _⟩ := hc (pickN x.a n) (by omega)
  generalize hM : (L.getD (pickN x.a n) mb0).i = m at *
  generalize pickN x.a n = j at *
  obtain ⟨k, q, b, p, nn⟩ := x
  unfold gdC at *
  simp only at *
  subst h1
  unfold gdV
  simp only
  clear hal hal2 hX0 hz hs hS hc hM hn
  have g1 : ((n : Int) == 0) = false := beq_eq_false_iff_ne.2 (by omega)
  have g2 : (n : Int) ≠ 0 := by omega
  go_enter Try.func14, Try.ntmps14
  go_upto_region 1 with fail
  obtain ⟨w1, hw1⟩ : ∃ w1, w1 = (w.alloc (.cells #[.int .i64 k, .int .i64 q, .int .i64 b, .int .i64 p, .bool true] 36)).alloc (.cells #[.int .i64 0, .int .i64 0, .int .i64 0, .int .i64 0, .bool false] 36) := ⟨_, rfl⟩
  rw [← hw1] at hR0 hX1 hB rr hb1 ⊢
  clear hw1
  obtain ⟨x0, x1, x2, x3, x4, ⟨e0, e1, e2, e3, e4⟩, xl⟩ := hX1.five
  have W2 := hX1.set 1 (.int .i64 m)
  have R2 := hR0.far w.heap.size 1 (.int .i64 m) (by omega)
  have B2 := hB.setCell (p := ⟨w.heap.size, 1, none⟩) (Nat.le_refl _) (.int .i64 m)
  go_upto_region 3 with fail
  have hj0 : 0 ≤ (j : Int) := by omega
  have hjn : (j : Int) < (n : Int) := by omega
  have HQ := Lib.hid hq
  have hw : IntKind.i64.wrap (q.tmod n + n) = q.tmod n + n := IntWalk.i64_in _ (by omega)
  go_upto_region 4 with fail
  obtain ⟨w2, hw2⟩ : ∃ w2, w2 = w1.setCell ⟨w.heap.size, 1, none⟩ (.int .i64 m) := ⟨_, rfl⟩
  rw [← hw2] at W2 R2 B2 ⊢
  simp only [List.setIfInBounds_toArray, List.set_cons_zero, List.set_cons_succ] at W2
  clear hw2 x0 x1 x2 x3 x4 e0 e1 e2 e3 e4 rr hX1 hR0 hB hw xl hb1
  obtain ⟨x0, x1, x2, x3, x4, ⟨e0, e1, e2, e3, e4⟩, xl⟩ := W2.five
  have W3 := W2.set 2 (.int .i64 gen)
  have R3 := R2.far w.heap.size 2 (.int .i64 gen) (by omega)
  have B3 := B2.setCell (p := ⟨w.heap.size, 2, none⟩) (Nat.le_refl _) (.int .i64 gen)
  go_upto_region 5 with fail
  obtain ⟨w3, hw3⟩ : ∃ w3, w3 = w2.setCell ⟨w.heap.size, 2, none⟩ (.int .i64 gen) := ⟨_, rfl⟩
  rw [← hw3] at W3 R3 B3 ⊢
  simp only [List.setIfInBounds_toArray, List.set_cons_zero, List.set_cons_succ] at W3
  clear hw3 x0 x1 x2 x3 x4 e0 e1 e2 e3 e4 W2 R2 B2 xl
  obtain ⟨x0, x1, x2, x3, x4, xf, xl⟩ := W3.five
  obtain ⟨r0, r1, r2, r3, r4, ⟨f0, f1, f2, f3, f4⟩, rl⟩ := R3.five
  obtain ⟨W, B⟩ := st5 R3 (.int .i64 k) (.int .i64 m) (.int .i64 gen) (.int .i64 p) (.bool true)
  have HW := Lib.hid W
  have HBB := Lib.hid (B3.trans (B w.heap.size (by omega)))
  clear W B R3 W3 B3 xf
  go_wp2_with fail
  refine bodyPost_ret (res_gd _ (w.heap.size + 1) _ ⟨k, m, gen, p, true⟩ rfl HW.out) rfl ?_
  exact ⟨rfl, HBB.out⟩
theorem aimed_walk (x : Gd) (L : List Mb) (gen : Int) (n : Nat) (a : Option Addr) (c : Nat) (w : World) (hn : L.length = n) (hnm : n ≤ 1000) (hs : Sl w w.heap.size a (mbCells L)) :
    Calls Try.prog 14 #[gdV x, .slice a n c, .int .i64 gen] w (AimPost (aimF x L gen) w) := by
  by_cases h : aimNo x L
  · rw [show aimF x L gen = x from if_pos h]
    exact aimed_no x L gen n a c w hn h
  · rw [show aimF x L gen = _ from if_neg h, hn]
    exact aimed_yes x L gen n a c w hn hnm h hs
def someL (l : List Gd) : List Gd := l.take 120
set_option maxRecDepth 100000 in
theorem some10_walk (a : Option Addr) (n c : Nat) (w : World) (hn : (n : Int) ≤ 9223372036854775807) (hc : n ≤ c) :
    Calls Try.prog 12 #[.slice a n c] w fun e w' => e = .returned (.slice a (min n 120) c) ∧ w = w' := by
  by_cases h : (120 : Int) < (n : Int)
  · have e : min n 120 = 120 := by omega
    rw [e]
    have hc2 : (120 : Int) ≤ (c : Int) := by omega
    go_enter Try.func12, Try.ntmps12
    go_wp2
    go_ret
    exact ⟨rfl, rfl⟩
  · have e : min n 120 = n := by omega
    rw [e]
    clear e
    go_enter Try.func12, Try.ntmps12
    go_wp2
    go_ret
    exact ⟨rfl, rfl⟩
set_option maxRecDepth 100000 in
set_option maxHeartbeats 4000000 in
theorem ids_walk (L : List Mb) (N : Nat) (a : Option Addr) (c : Nat) (w : World) (hN : L.length = N) (hNm : N ≤ 1000) (h : Sl w w.heap.size a (mbCells L)) :
    Calls Try.prog 24 #[.slice a N c] w fun e w' => ∃ a' c', e = .returned (.slice a' N c') ∧ w'.ownsRow w.heap.size 3 1 (.slice a' N c') N (i64s (idsL L)) ∧ Below w.heap.size w w' := by
  obtain ⟨i0, hi, hz0, hz1, hz2⟩ := info_parts info_i64
  have HN := Lib.hid hN
  have HS := Lib.hid h
  clear hN h
  go_enter Try.func24, Try.ntmps24
  go_wp2_with fail
  go_loopw [3, 4] (fun R I wr => ∃ k : Nat, k ≤ N ∧ I = .int .i64 k ∧ wr.ownsRow w.heap.size 3 1 R k (i64s (idsL (L.take k))) ∧ Below w.heap.size w wr) (fun _ I _ => N - (intOf I).toNat)
  case atStart => exact ⟨0, by omega, rfl, by simpa [i64s, idsL] using World.ownsRow_nil _ _ _ _, Below.refl _ _⟩
  case round =>
    obtain ⟨k, hk, rfl, hown, hb⟩ := hrel
    by_cases hlt : k < N
    · have hil : k < L.length := by rw [HN.out]; exact hlt
      have hlt2 : (k : Int) < (N : Int) := by omega
      have hk0 : 0 ≤ (k : Int) := by omega
      obtain ⟨b1, o1, rfl, hb1, hc⟩ := (HS.out.below hb (Nat.le_refl _)).mb (by omega)
      obtain ⟨r0, _, _⟩ := hc k hil
      have HT := Lib.hid (idsL_take L k hil)
      obtain ⟨v, hv⟩ : ∃ v, (L.getD k mb0).i = v := ⟨_, rfl⟩
      rw [hv] at r0 HT
      have hz1s : b1 < wr.heap.size := by have := hb.size; omega
      clear hc hv
      go_wp2_with (at_builtin; refine wpList_append_own _ rfl _ _ 39 rfl w.heap.size 3 i0 (.int .i64 0) 1 8 Try.underlying39 hi hz0 hz1 hz2 rfl (by decide) _ _ _ rfl (hown.alloc _) ⟨wr.heap.size, 0, none⟩ 1 1 [.int .i64 v] rfl rfl ?c1 ?c2 ?c3 ?c4 ?c5 ?_)
      case c1 =>
        intro j u hj
        match j, hj with
        | 0, hj => simp at hj; subst hj; simp [Addr.add]
      case c2 => intro u hu; simp at hu; subst hu; rfl
      case c3 => unfold maxLen; omega
      case c4 => omega
      case c5 => exact Nat.le_trans hb.size (by simp)
      intro v' w3 hown' hgrow _
      have hb3 := (hb.alloc hb.size _).grown hgrow (by have := hb.size; simp; omega) (fun k hk => (hown.lt k hk).1)
      have hown3 : w3.ownsRow w.heap.size 3 1 v' (k + 1) (i64s (idsL (L.take (k + 1)))) := by
        rw [HT.out, i64s_snoc]; simpa using hown'
      clear hown' hgrow hown r0
      go_wp2_with fail
      go_roundw
      case rel => exact ⟨k + 1, by omega, by go_num, hown3, hb3⟩
      case measure => simp [intOf]; omega
    · obtain rfl : k = N := by omega
      obtain ⟨a6, c6, rfl⟩ := ownN_shape hown
      have hids : L.take k = L := List.take_of_length_le (by rw [HN.out]; exact Nat.le_refl _)
      rw [hids] at hown
      have HO := Lib.hid hown
      clear hown hids
      go_wp2_with fail
      go_ret
      exact ⟨a6, c6, rfl, HO.out, hb⟩
end Go.Proofs.Ytocmhmfaehnliaa
