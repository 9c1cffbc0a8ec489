/- The walks of txn.complete and txn.change, at a row of the call's own. -/
import Derived.Test.YtfjnmjibifefgaaTxSmall
import Derived.BigRegion
namespace Go.Proofs.Ytfjnmjibifefgaa
open Go.RowKit Vm
set_option linter.unusedVariables false

def TRow (w : World) (base N g c : Nat) (l : List Tr) : Prop := w.ownsRow base 52 5 (.slice (some ⟨g, 0, none⟩) N c) N (trCells l)
theorem TRow.set {w : World} {base N g c i j : Nat} {l l' : List Tr} {v : Value} (h : TRow w base N g c l) (hj : i * 5 + j < (trCells l).length) (he : (trCells l).set (i * 5 + j) v = trCells l') : TRow (w.setCell ⟨g, i * 5 + j, none⟩ v) base N g c l' := by
  have := ownN_store (u := v) h hj
  rw [he] at this
  exact this
theorem TRow.cells {w : World} {base N g c : Nat} {l : List Tr} (h : TRow w base N g c l) (hN : 0 < N) (i : Nat) (hi : i < l.length) : base ≤ g ∧ g < w.heap.size ∧ (∀ j, w.frozen? ⟨g, j, none⟩ = false) ∧
    w.cell? ⟨g, i * 5, none⟩ = some (.int .i64 (l.getD i tr0).p) ∧ w.cell? ⟨g, i * 5 + 1, none⟩ = some (.int .i64 (l.getD i tr0).e) ∧ w.cell? ⟨g, i * 5 + 2, none⟩ = some (.int .i64 (l.getD i tr0).s) ∧ w.cell? ⟨g, i * 5 + 3, none⟩ = some (.int .i64 (l.getD i tr0).m) ∧ w.cell? ⟨g, i * 5 + 4, none⟩ = some (.int .i64 (l.getD i tr0).l) := by
  obtain ⟨g', e, h1, h2, h3, h4⟩ := ownN_at h hN
  injection e with e
  injection e with e _ _
  subst e
  obtain ⟨k0, k1, k2, k3, k4⟩ := trCells_at l i hi
  exact ⟨h1, h2, h3, h4 _ _ k0, h4 _ _ k1, h4 _ _ k2, h4 _ _ k3, h4 _ _ k4⟩
theorem tr_set {l : List Tr} {i : Nat} {x : Tr} (hi : i < l.length) : (l.set i x).getD i tr0 = x := by simp [List.getD, hi]
/-- What a change of the row at i answers: y. -/
def ChPost (w : World) (base N g c i : Nat) (l : List Tr) (o : Option Tr) (e : Ending) (w' : World) : Prop :=
  (∃ y, o = some y ∧ e = .returned (.int .i64 0) ∧ TRow w' base N g c (l.set i y) ∧ Below base w w') ∨ (o = none ∧ e = .returned (.int .i64 9) ∧ TRow w' base N g c l ∧ Below base w w')

set_option maxRecDepth 100000 in
set_option maxHeartbeats 4000000 in
theorem complete_walk (l : List Tr) (N g c base i : Nat) (x : Tr) (m : Int) (w : World) (hN : l.length = N) (hi : i < N) (hx : l.getD i tr0 = x) (he : 1 ≤ x.e ∧ x.e ≤ 1099511627776) (h : TRow w base N g c l) :
    Calls Try.prog 76 #[.pointer (some ⟨g, i * 5, none⟩)] w (ChPost w base N g c i l (turnT x 5 m)) := by
  obtain ⟨hb, hg, hf, r0, r1, r2, r3, r4⟩ := h.cells (by omega) i (by omega)
  have f1 := hf (i * 5 + 1)
  have f2 := hf (i * 5 + 2)
  have f3 := hf (i * 5 + 3)
  have f4 := hf (i * 5 + 4)
  rw [hx] at r0 r1 r2 r3 r4
  have hil : i < l.length := by omega
  have hcl := trCells_length l
  obtain ⟨xp, xe, xs, xm, xl⟩ := x
  simp only at r0 r1 r2 r3 r4 he
  have hw1 : IntKind.i64.wrap (xe + 1) = xe + 1 := IntWalk.i64_in _ (by omega)
  have key : ∀ v, TRow (((((w.setCell ⟨g, i * 5 + 4, none⟩ (.int .i64 v)).setCell ⟨g, i * 5 + 1, none⟩ (.int .i64 (xe + 1))).setCell ⟨g, i * 5 + 2, none⟩ (.int .i64 1)).setCell ⟨g, i * 5 + 3, none⟩ (.int .i64 0))) base N g c (l.set i ⟨xp, xe + 1, 1, 0, v⟩) := fun v => by
    have e4 := trCells_set4 l i v hil
    have h1 := h.set (by omega) e4
    have e1 := trCells_set1 (l.set i { l.getD i tr0 with l := v }) i (xe + 1) (by simpa using hil)
    have h2 := h1.set (by rw [trCells_length]; simp; omega) e1
    rw [List.set_set, tr_set hil] at h2
    have e2 := trCells_set2 (l.set i { ({ l.getD i tr0 with l := v } : Tr) with e := xe + 1 }) i 1 (by simpa using hil)
    have h3 := h2.set (by rw [trCells_length]; simp; omega) e2
    rw [List.set_set, tr_set hil] at h3
    have e3 := trCells_set3 (l.set i { ({ ({ l.getD i tr0 with l := v } : Tr) with e := xe + 1 } : Tr) with s := 1 }) i 0 (by simpa using hil)
    have h4 := h3.set (by rw [trCells_length]; simp; omega) e3
    rw [List.set_set, tr_set hil, hx] at h4
    exact h4
  have kb : ∀ v, Below base w (((((w.setCell ⟨g, i * 5 + 4, none⟩ (.int .i64 v)).setCell ⟨g, i * 5 + 1, none⟩ (.int .i64 (xe + 1))).setCell ⟨g, i * 5 + 2, none⟩ (.int .i64 1)).setCell ⟨g, i * 5 + 3, none⟩ (.int .i64 0))) := fun v =>
    ((((Below.refl base w).setCell (p := ⟨g, i * 5 + 4, none⟩) hb _).setCell (p := ⟨g, i * 5 + 1, none⟩) hb _).setCell (p := ⟨g, i * 5 + 2, none⟩) hb _).setCell (p := ⟨g, i * 5 + 3, none⟩) hb _
  have K := Lib.hid key
  have KB := Lib.hid kb
  have HH := Lib.hid h
  clear key kb h hf hx hcl
  by_cases h3 : xs = 3
  · subst h3
    have ht : turnT ⟨xp, xe, 3, xm, xl⟩ 5 m = some ⟨xp, xe + 1, 1, 0, 3⟩ := by simp [turnT]
    rw [ht]
    clear ht
    go_enter Try.func76, Try.ntmps76
    go_wp2_with fail
    go_ret
    exact .inl ⟨_, rfl, rfl, K.out 3, KB.out 3⟩
  by_cases h4 : xs = 4
  · subst h4
    have ht : turnT ⟨xp, xe, 4, xm, xl⟩ 5 m = some ⟨xp, xe + 1, 1, 0, 4⟩ := by simp [turnT]
    rw [ht]
    clear ht h3
    go_enter Try.func76, Try.ntmps76
    go_wp2_with fail
    go_ret
    exact .inl ⟨_, rfl, rfl, K.out 4, KB.out 4⟩
  · have ht : turnT ⟨xp, xe, xs, xm, xl⟩ 5 m = none := by simp [turnT, h3, h4]
    rw [ht]
    have b3 : (xs == 3) = false := by simp [h3]
    have b4 : (xs == 4) = false := by simp [h4]
    clear ht
    go_enter Try.func76, Try.ntmps76
    go_wp2_with fail
    go_ret
    exact .inr ⟨rfl, rfl, HH.out, Below.refl _ _⟩

theorem TRow.drewN {w : World} {base N g c : Nat} {l : List Tr} (h : TRow w base N g c l) (n : Nat) : TRow (w.drewN n) base N g c l := h
set_option maxRecDepth 100000 in
set_option maxHeartbeats 4000000 in
theorem change_walk (l : List Tr) (N g c base i : Nat) (x : Tr) (k p m : Int) (w : World) (hN : l.length = N) (hi : i < N) (hx : l.getD i tr0 = x) (he : 1 ≤ x.e ∧ x.e ≤ 1099511627776) (hk : 1 ≤ k ∧ k ≤ 5) (h : TRow w base N g c l) (hbase : base ≤ w.heap.size) :
    Calls Try.prog 55 #[.pointer (some ⟨g, i * 5, none⟩), .agg #[.int .i64 k, .int .i64 p, .int .i64 m]] w (ChPost w base N g c i l (turnT x k m)) := by
  obtain ⟨hb, hg, hf, r0, r1, r2, r3, r4⟩ := h.cells (by omega) i (by omega)
  have f1 := hf (i * 5 + 1)
  have f2 := hf (i * 5 + 2)
  have f3 := hf (i * 5 + 3)
  have f4 := hf (i * 5 + 4)
  rw [hx] at r0 r1 r2 r3 r4
  have hil : i < l.length := by omega
  have hcl := trCells_length l
  have HX := Lib.hid hx
  have HNe := Lib.hid hN
  have K1 := Lib.hid (fun (W : World) (hW : TRow W base N g c l) => (show TRow (((W.setCell ⟨g, i * 5 + 1, none⟩ (.int .i64 (x.e + 1))).setCell ⟨g, i * 5 + 3, none⟩ (.int .i64 0)).setCell ⟨g, i * 5 + 4, none⟩ (.int .i64 0)) base N g c (l.set i ⟨x.p, x.e + 1, x.s, 0, 0⟩) from by
    have e1 := trCells_set1 l i (x.e + 1) hil
    have h1 := hW.set (by omega) e1
    have e3 := trCells_set3 (l.set i { l.getD i tr0 with e := x.e + 1 }) i 0 (by simpa using hil)
    have h2 := h1.set (by rw [trCells_length]; simp; omega) e3
    rw [List.set_set, tr_set hil] at h2
    have e4 := trCells_set4 (l.set i { ({ l.getD i tr0 with e := x.e + 1 } : Tr) with m := 0 }) i 0 (by simpa using hil)
    have h3 := h2.set (by rw [trCells_length]; simp; omega) e4
    rw [List.set_set, tr_set hil, hx] at h3
    exact h3))
  have K2 := Lib.hid (fun (W : World) (v : Int) (hW : TRow W base N g c l) => (show TRow (W.setCell ⟨g, i * 5 + 2, none⟩ (.int .i64 v)) base N g c (l.set i ⟨x.p, x.e, v, x.m, x.l⟩) from by
    have e1 := trCells_set2 l i v hil
    have h1 := hW.set (by omega) e1
    rw [hx] at h1
    exact h1))
  have K3 := Lib.hid (fun (W : World) (u v : Int) (hW : TRow W base N g c l) => (show TRow ((W.setCell ⟨g, i * 5 + 2, none⟩ (.int .i64 u)).setCell ⟨g, i * 5 + 3, none⟩ (.int .i64 v)) base N g c (l.set i ⟨x.p, x.e, u, v, x.l⟩) from by
    have e1 := trCells_set2 l i u hil
    have h1 := hW.set (by omega) e1
    have e3 := trCells_set3 (l.set i { l.getD i tr0 with s := u }) i v (by simpa using hil)
    have h2 := h1.set (by rw [trCells_length]; simp; omega) e3
    rw [List.set_set, tr_set hil, hx] at h2
    exact h2))
  have K4 := Lib.hid (fun (W : World) (u v : Int) (hW : TRow W base N g c l) => (show TRow ((W.setCell ⟨g, i * 5 + 2, none⟩ (.int .i64 u)).setCell ⟨g, i * 5 + 2, none⟩ (.int .i64 v)) base N g c (l.set i ⟨x.p, x.e, v, x.m, x.l⟩) from by
    have e1 := trCells_set2 l i u hil
    have h1 := hW.set (by omega) e1
    have e3 := trCells_set2 (l.set i { l.getD i tr0 with s := u }) i v (by simpa using hil)
    have h2 := h1.set (by rw [trCells_length]; simp; omega) e3
    rw [List.set_set, tr_set hil, hx] at h2
    exact h2))
  have hal : Below base w (w.alloc (.cells #[.int .i64 k, .int .i64 p, .int .i64 m] 50)) := (Below.refl _ _).alloc hbase _
  have hR := Lib.hid (show TRow (w.alloc (.cells #[.int .i64 k, .int .i64 p, .int .i64 m] 50)) base N g c l from World.ownsRow.alloc h _)
  have HC := Lib.hid (fun W hW => complete_walk l N g c base i x m W hN hi hx he hW)
  have HH := Lib.hid h
  have hfr : Hid (∀ j, w.frozen? ⟨g, j, none⟩ = false) := Lib.hid hf
  clear h hf hx hcl hN
  obtain ⟨xp, xe, xs, xm, xl⟩ := x
  simp only at r0 r1 r2 r3 r4 he K1 K2 K3 K4
  have hw1 : IntKind.i64.wrap (xe + 1) = xe + 1 := IntWalk.i64_in _ (by omega)
  have hkk : k = 1 ∨ k = 2 ∨ k = 3 ∨ k = 4 ∨ k = 5 := by omega
  rcases hkk with rfl | rfl | rfl | rfl | rfl
  · by_cases hs : xs = 1
    · subst hs
      have ht : turnT ⟨xp, xe, 1, xm, xl⟩ 1 m = some ⟨xp, xe + 1, 1, 0, 0⟩ := by simp [turnT]
      rw [ht]
      clear ht
      go_enter Try.func55, Try.ntmps55
      go_wp2_with fail
      go_ret
      exact .inl ⟨_, rfl, rfl, World.ownsRow.alloc (K1.out _ HH.out) _, ((((Below.refl base w).setCell (p := ⟨g, i * 5 + 1, none⟩) hb _).setCell (p := ⟨g, i * 5 + 3, none⟩) hb _).setCell (p := ⟨g, i * 5 + 4, none⟩) hb _).alloc (by simpa using hbase) _⟩
    · have ht : turnT ⟨xp, xe, xs, xm, xl⟩ 1 m = none := by simp [turnT, hs]
      rw [ht]
      have b1 : (xs != 1) = true := by simp [hs]
      clear ht
      go_enter Try.func55, Try.ntmps55
      go_wp2_with fail
      go_ret
      exact .inr ⟨rfl, rfl, hR.out, hal⟩
  · by_cases hs : xs = 1 ∨ xs = 2
    · have ht : turnT ⟨xp, xe, xs, xm, xl⟩ 2 m = some ⟨xp, xe, 2, bits .or .i64 xm m, xl⟩ := by simp [turnT, hs]
      rw [ht]
      clear ht
      rcases hs with rfl | rfl
      all_goals
        go_enter Try.func55, Try.ntmps55
        go_wp2_with fail
        go_region
        go_wp2_with fail
        go_ret
        exact .inl ⟨_, rfl, rfl, World.ownsRow.alloc (K3.out _ _ _ HH.out) _, ((((Below.refl base w).setCell (p := ⟨g, i * 5 + 2, none⟩) hb _).setCell (p := ⟨g, i * 5 + 3, none⟩) hb _).alloc (by simpa using hbase) _).drew⟩
    · have ht : turnT ⟨xp, xe, xs, xm, xl⟩ 2 m = none := by simp [turnT, hs]
      rw [ht]
      have b1 : (xs != 1) = true := by simp; omega
      have b2 : (xs != 2) = true := by simp; omega
      clear ht
      go_enter Try.func55, Try.ntmps55
      go_wp2_with fail
      go_ret
      exact .inr ⟨rfl, rfl, hR.out, hal⟩
  · by_cases hs : xs = 2
    · subst hs
      have ht : turnT ⟨xp, xe, 2, xm, xl⟩ 3 m = some ⟨xp, xe, 3, xm, xl⟩ := by simp [turnT]
      rw [ht]
      clear ht
      go_enter Try.func55, Try.ntmps55
      go_wp2_with fail
      go_ret
      exact .inl ⟨_, rfl, rfl, World.ownsRow.alloc (K2.out _ _ HH.out) _, ((Below.refl base w).setCell (p := ⟨g, i * 5 + 2, none⟩) hb _).alloc (by simpa using hbase) _⟩
    · have ht : turnT ⟨xp, xe, xs, xm, xl⟩ 3 m = none := by simp [turnT, hs]
      rw [ht]
      have b1 : (xs != 2) = true := by simp [hs]
      clear ht
      go_enter Try.func55, Try.ntmps55
      go_wp2_with fail
      go_ret
      exact .inr ⟨rfl, rfl, hR.out, hal⟩
  · by_cases hs : xs = 2
    · subst hs
      have ht : turnT ⟨xp, xe, 2, xm, xl⟩ 4 m = some ⟨xp, xe, 4, xm, xl⟩ := by simp [turnT]
      rw [ht]
      clear ht
      go_enter Try.func55, Try.ntmps55
      go_wp2_with fail
      go_ret
      exact .inl ⟨_, rfl, rfl, World.ownsRow.alloc (K4.out _ _ _ HH.out) _, (((Below.refl base w).setCell (p := ⟨g, i * 5 + 2, none⟩) hb _).setCell (p := ⟨g, i * 5 + 2, none⟩) hb _).alloc (by simpa using hbase) _⟩
    · have ht : turnT ⟨xp, xe, xs, xm, xl⟩ 4 m = none := by simp [turnT, hs]
      rw [ht]
      have b1 : (xs != 2) = true := by simp [hs]
      clear ht
      go_enter Try.func55, Try.ntmps55
      go_wp2_with fail
      go_ret
      exact .inr ⟨rfl, rfl, hR.out, hal⟩
  · have HC2 := Lib.hid (HC.out _ hR.out)
    generalize turnT ⟨xp, xe, xs, xm, xl⟩ 5 m = o at *
    go_enter Try.func55, Try.ntmps55
    go_wp2_with fail
    refine HC2.out.mono ?_
    rintro e w1 (⟨y, rfl, rfl, h1, h2⟩ | ⟨rfl, rfl, h1, h2⟩)
    · go_wp2_with fail
      go_ret
      exact .inl ⟨_, rfl, rfl, h1, hal.trans h2⟩
    · go_wp2_with fail
      go_ret
      exact .inr ⟨rfl, rfl, h1, hal.trans h2⟩
end Go.Proofs.Ytfjnmjibifefgaa
