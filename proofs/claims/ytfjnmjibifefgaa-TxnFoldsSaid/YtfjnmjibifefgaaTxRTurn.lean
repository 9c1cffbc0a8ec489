/- The walk of headgateref12.turn. -/
import Derived.Test.YtfjnmjibifefgaaTxRRight
import Derived.Test.YtfjnmjibifefgaaTxRow
import Derived.Deep.Cut
namespace Go.Proofs.Ytfjnmjibifefgaa
open Go.RowKit Vm
set_option linter.unusedVariables false
set_option linter.unusedSimpArgs false

def TuIs (x : Tr) (k m : Int) (Y : Tr) (E : Int) : Prop := (turnT x k m = some Y ∧ E = 0) ∨ (turnT x k m = none ∧ Y = tr0 ∧ E = 9)
theorem tuIs_ex (x : Tr) (k m : Int) : ∃ Y E, TuIs x k m Y E := by
  cases h : turnT x k m with
  | some y => exact ⟨y, 0, .inl ⟨h, rfl⟩⟩
  | none => exact ⟨tr0, 9, .inr ⟨h, rfl, rfl⟩⟩
theorem tuIs_some {x : Tr} {k m : Int} {Y Z : Tr} {E : Int} (h : TuIs x k m Y E) (he : turnT x k m = some Z) : Y = Z ∧ E = 0 := by
  rcases h with ⟨h, h2⟩ | ⟨h, _⟩
  · rw [he] at h; injection h with h; exact ⟨h.symm, h2⟩
  · rw [he] at h; cases h
theorem tuIs_none {x : Tr} {k m : Int} {Y : Tr} {E : Int} (h : TuIs x k m Y E) (he : turnT x k m = none) : Y = tr0 ∧ E = 9 := by
  rcases h with ⟨h, _⟩ | ⟨_, h⟩
  · rw [he] at h; cases h
  · exact h
set_option maxRecDepth 100000 in
set_option maxHeartbeats 8000000 in
theorem rturn1 (x : Tr) (p m : Int) (w : World) (Y : Tr) (E : Int) (hT : TuIs x 1 m Y E) (he : 1 ≤ x.e ∧ x.e ≤ 1099511627776) (hm : 0 ≤ m ∧ m < 8192) (hxm : 0 ≤ x.m ∧ x.m < 8192) :
    Calls Try.prog 59 #[.agg #[.int .i64 x.p, .int .i64 x.e, .int .i64 x.s, .int .i64 x.m, .int .i64 x.l], .agg #[.int .i64 1, .int .i64 p, .int .i64 m]] w (RrPost w Y E) := by
  obtain ⟨xp, xe, xs, xm, xl⟩ := x
  simp only at he hxm ⊢
  have hal0 := balloc w (.cells #[.int .i64 xp, .int .i64 xe, .int .i64 xs, .int .i64 xm, .int .i64 xl] 52)
  have hz0 : (w.alloc (.cells #[.int .i64 xp, .int .i64 xe, .int .i64 xs, .int .i64 xm, .int .i64 xl] 52)).heap.size = w.heap.size + 1 := by simp
  have hX0 := Whole.new w 52 #[.int .i64 xp, .int .i64 xe, .int .i64 xs, .int .i64 xm, .int .i64 xl]
  have hal1 := balloc (w.alloc (.cells #[.int .i64 xp, .int .i64 xe, .int .i64 xs, .int .i64 xm, .int .i64 xl] 52)) (.cells #[.int .i64 1, .int .i64 p, .int .i64 m] 50)
  have hN1 := Whole.new (w.alloc (.cells #[.int .i64 xp, .int .i64 xe, .int .i64 xs, .int .i64 xm, .int .i64 xl] 52)) 50 #[.int .i64 1, .int .i64 p, .int .i64 m]
  rw [hz0] at hN1
  have hX1 := hX0.keep hal1
  have hz1 : ((w.alloc (.cells #[.int .i64 xp, .int .i64 xe, .int .i64 xs, .int .i64 xm, .int .i64 xl] 52)).alloc (.cells #[.int .i64 1, .int .i64 p, .int .i64 m] 50)).heap.size = w.heap.size + 2 := by simp
  have hb1 := gtrans hal0 hal1
  generalize hw1 : (w.alloc (.cells #[.int .i64 xp, .int .i64 xe, .int .i64 xs, .int .i64 xm, .int .i64 xl] 52)).alloc (.cells #[.int .i64 1, .int .i64 p, .int .i64 m] 50) = w1 at *
  have hal2 := balloc w1 (.cells #[.int .i64 0, .int .i64 0, .int .i64 0, .int .i64 0, .int .i64 0] 52)
  have hZ := Whole.new w1 52 #[.int .i64 0, .int .i64 0, .int .i64 0, .int .i64 0, .int .i64 0]
  rw [hz1] at hZ
  have hX := hX1.keep hal2
  have hN := hN1.keep hal2
  have hb := gtrans hb1 hal2
  have hzz : w.heap.size + 2 < (w1.alloc (.cells #[.int .i64 0, .int .i64 0, .int .i64 0, .int .i64 0, .int .i64 0] 52)).heap.size := by simp; omega
  have hEx : ∃ w0, w0 = w1.alloc (.cells #[.int .i64 0, .int .i64 0, .int .i64 0, .int .i64 0, .int .i64 0] 52) := ⟨_, rfl⟩
  obtain ⟨w0, hw0⟩ := hEx
  rw [← hw0] at hX hN hZ hb hzz
  rw [← hw1] at hw0
  clear hal0 hz0 hX0 hal1 hN1 hX1 hz1 hb1 hw1 hal2
  have HT := Lib.hid hT
  have HW0 := Lib.hid hw0
  clear hT hw0
  have x0 := hX.cell 0
  have x1 := hX.cell 1
  have x2 := hX.cell 2
  have x3 := hX.cell 3
  have x4 := hX.cell 4
  have n0 := hN.cell 0
  have n1 := hN.cell 1
  have n2 := hN.cell 2
  have z0 := hZ.cell 0
  have z1 := hZ.cell 1
  have z2 := hZ.cell 2
  have z3 := hZ.cell 3
  have z4 := hZ.cell 4
  simp only [List.getElem?_toArray, List.getElem?_cons_zero, List.getElem?_cons_succ] at x0 x1 x2 x3 x4 n0 n1 n2 z0 z1 z2 z3 z4
  have f0 := hZ.frozen 0
  have f1 := hZ.frozen 1
  have f2 := hZ.frozen 2
  have f3 := hZ.frozen 3
  have f4 := hZ.frozen 4
  have gx2 := hX.frozen 2
  have gx3 := hX.frozen 3
  have hwe : IntKind.i64.wrap (xe + 1) = xe + 1 := IntWalk.i64_in _ (by omega)
  have hs5 : xs = 1 ∨ xs = 2 ∨ xs = 3 ∨ xs = 4 ∨ ((xs == 1) = false ∧ (xs == 2) = false ∧ (xs == 3) = false ∧ (xs == 4) = false) := by simp; omega
  rcases hs5 with rfl | rfl | rfl | rfl | ⟨s1, s2, s3, s4⟩
  · obtain ⟨rfl, rfl⟩ := tuIs_some (Z := ⟨xp, xe + 1, 1, 0, 0⟩) HT.out (by simp [turnT])
    go_enter Try.func59, Try.ntmps59
    go_upto_region 1 with fail
    rw [← HW0.out]
    go_wp2_with fail
    refine bodyPost_ret (v := .tuple #[.agg #[.int .i64 xp, .int .i64 (xe + 1), .int .i64 1, .int .i64 0, .int .i64 0], .int .i64 0]) (by simp [results, Try.results59, go_sem, x0, x1, x2, x3, x4, z0, z1, z2, z3, z4]) rfl ⟨rfl, ?_⟩
    exact (((((hb.setCell (p := ⟨w.heap.size + 2, 0, none⟩) (Nat.le_add_right _ _) _).setCell (p := ⟨w.heap.size + 2, 1, none⟩) (Nat.le_add_right _ _) _).setCell (p := ⟨w.heap.size + 2, 2, none⟩) (Nat.le_add_right _ _) _).setCell (p := ⟨w.heap.size + 2, 3, none⟩) (Nat.le_add_right _ _) _).setCell (p := ⟨w.heap.size + 2, 4, none⟩) (Nat.le_add_right _ _) _)
  · obtain ⟨rfl, rfl⟩ := tuIs_none HT.out (by simp [turnT])
    go_enter Try.func59, Try.ntmps59
    go_upto_region 1 with fail
    rw [← HW0.out]
    go_wp2_with fail
    refine bodyPost_ret (v := .tuple #[.agg #[.int .i64 0, .int .i64 0, .int .i64 0, .int .i64 0, .int .i64 0], .int .i64 9]) (by simp [results, Try.results59, go_sem, x0, x1, x2, x3, x4, z0, z1, z2, z3, z4]) rfl ⟨rfl, ?_⟩
    exact (((((hb.setCell (p := ⟨w.heap.size + 2, 0, none⟩) (Nat.le_add_right _ _) _).setCell (p := ⟨w.heap.size + 2, 1, none⟩) (Nat.le_add_right _ _) _).setCell (p := ⟨w.heap.size + 2, 2, none⟩) (Nat.le_add_right _ _) _).setCell (p := ⟨w.heap.size + 2, 3, none⟩) (Nat.le_add_right _ _) _).setCell (p := ⟨w.heap.size + 2, 4, none⟩) (Nat.le_add_right _ _) _)
  · obtain ⟨rfl, rfl⟩ := tuIs_none HT.out (by simp [turnT])
    go_enter Try.func59, Try.ntmps59
    go_upto_region 1 with fail
    rw [← HW0.out]
    go_wp2_with fail
    refine bodyPost_ret (v := .tuple #[.agg #[.int .i64 0, .int .i64 0, .int .i64 0, .int .i64 0, .int .i64 0], .int .i64 9]) (by simp [results, Try.results59, go_sem, x0, x1, x2, x3, x4, z0, z1, z2, z3, z4]) rfl ⟨rfl, ?_⟩
    exact (((((hb.setCell (p := ⟨w.heap.size + 2, 0, none⟩) (Nat.le_add_right _ _) _).setCell (p := ⟨w.heap.size + 2, 1, none⟩) (Nat.le_add_right _ _) _).setCell (p := ⟨w.heap.size + 2, 2, none⟩) (Nat.le_add_right _ _) _).setCell (p := ⟨w.heap.size + 2, 3, none⟩) (Nat.le_add_right _ _) _).setCell (p := ⟨w.heap.size + 2, 4, none⟩) (Nat.le_add_right _ _) _)
  · obtain ⟨rfl, rfl⟩ := tuIs_none HT.out (by simp [turnT])
    go_enter Try.func59, Try.ntmps59
    go_upto_region 1 with fail
    rw [← HW0.out]
    go_wp2_with fail
    refine bodyPost_ret (v := .tuple #[.agg #[.int .i64 0, .int .i64 0, .int .i64 0, .int .i64 0, .int .i64 0], .int .i64 9]) (by simp [results, Try.results59, go_sem, x0, x1, x2, x3, x4, z0, z1, z2, z3, z4]) rfl ⟨rfl, ?_⟩
    exact (((((hb.setCell (p := ⟨w.heap.size + 2, 0, none⟩) (Nat.le_add_right _ _) _).setCell (p := ⟨w.heap.size + 2, 1, none⟩) (Nat.le_add_right _ _) _).setCell (p := ⟨w.heap.size + 2, 2, none⟩) (Nat.le_add_right _ _) _).setCell (p := ⟨w.heap.size + 2, 3, none⟩) (Nat.le_add_right _ _) _).setCell (p := ⟨w.heap.size + 2, 4, none⟩) (Nat.le_add_right _ _) _)
  · obtain ⟨rfl, rfl⟩ := tuIs_none HT.out (by simp at s1 s2 s3 s4; simp [turnT, s1, s2, s3, s4])
    go_enter Try.func59, Try.ntmps59
    go_upto_region 1 with fail
    rw [← HW0.out]
    go_wp2_with fail
    refine bodyPost_ret (v := .tuple #[.agg #[.int .i64 0, .int .i64 0, .int .i64 0, .int .i64 0, .int .i64 0], .int .i64 9]) (by simp [results, Try.results59, go_sem, x0, x1, x2, x3, x4, z0, z1, z2, z3, z4]) rfl ⟨rfl, ?_⟩
    exact (((((hb.setCell (p := ⟨w.heap.size + 2, 0, none⟩) (Nat.le_add_right _ _) _).setCell (p := ⟨w.heap.size + 2, 1, none⟩) (Nat.le_add_right _ _) _).setCell (p := ⟨w.heap.size + 2, 2, none⟩) (Nat.le_add_right _ _) _).setCell (p := ⟨w.heap.size + 2, 3, none⟩) (Nat.le_add_right _ _) _).setCell (p := ⟨w.heap.size + 2, 4, none⟩) (Nat.le_add_right _ _) _)
set_option maxRecDepth 100000 in
set_option maxHeartbeats 8000000 in
theorem rturn2 (x : Tr) (p m : Int) (w : World) (Y : Tr) (E : Int) (hT : TuIs x 2 m Y E) (he : 1 ≤ x.e ∧ x.e ≤ 1099511627776) (hm : 0 ≤ m ∧ m < 8192) (hxm : 0 ≤ x.m ∧ x.m < 8192) :
    Calls Try.prog 59 #[.agg #[.int .i64 x.p, .int .i64 x.e, .int .i64 x.s, .int .i64 x.m, .int .i64 x.l], .agg #[.int .i64 2, .int .i64 p, .int .i64 m]] w (RrPost w Y E) := by
  obtain ⟨xp, xe, xs, xm, xl⟩ := x
  simp only at he hxm ⊢
  have hal0 := balloc w (.cells #[.int .i64 xp, .int .i64 xe, .int .i64 xs, .int .i64 xm, .int .i64 xl] 52)
  have hz0 : (w.alloc (.cells #[.int .i64 xp, .int .i64 xe, .int .i64 xs, .int .i64 xm, .int .i64 xl] 52)).heap.size = w.heap.size + 1 := by simp
  have hX0 := Whole.new w 52 #[.int .i64 xp, .int .i64 xe, .int .i64 xs, .int .i64 xm, .int .i64 xl]
  have hal1 := balloc (w.alloc (.cells #[.int .i64 xp, .int .i64 xe, .int .i64 xs, .int .i64 xm, .int .i64 xl] 52)) (.cells #[.int .i64 2, .int .i64 p, .int .i64 m] 50)
  have hN1 := Whole.new (w.alloc (.cells #[.int .i64 xp, .int .i64 xe, .int .i64 xs, .int .i64 xm, .int .i64 xl] 52)) 50 #[.int .i64 2, .int .i64 p, .int .i64 m]
  rw [hz0] at hN1
  have hX1 := hX0.keep hal1
  have hz1 : ((w.alloc (.cells #[.int .i64 xp, .int .i64 xe, .int .i64 xs, .int .i64 xm, .int .i64 xl] 52)).alloc (.cells #[.int .i64 2, .int .i64 p, .int .i64 m] 50)).heap.size = w.heap.size + 2 := by simp
  have hb1 := gtrans hal0 hal1
  generalize hw1 : (w.alloc (.cells #[.int .i64 xp, .int .i64 xe, .int .i64 xs, .int .i64 xm, .int .i64 xl] 52)).alloc (.cells #[.int .i64 2, .int .i64 p, .int .i64 m] 50) = w1 at *
  have hal2 := balloc w1 (.cells #[.int .i64 0, .int .i64 0, .int .i64 0, .int .i64 0, .int .i64 0] 52)
  have hZ := Whole.new w1 52 #[.int .i64 0, .int .i64 0, .int .i64 0, .int .i64 0, .int .i64 0]
  rw [hz1] at hZ
  have hX := hX1.keep hal2
  have hN := hN1.keep hal2
  have hb := gtrans hb1 hal2
  have hzz : w.heap.size + 2 < (w1.alloc (.cells #[.int .i64 0, .int .i64 0, .int .i64 0, .int .i64 0, .int .i64 0] 52)).heap.size := by simp; omega
  have hEx : ∃ w0, w0 = w1.alloc (.cells #[.int .i64 0, .int .i64 0, .int .i64 0, .int .i64 0, .int .i64 0] 52) := ⟨_, rfl⟩
  obtain ⟨w0, hw0⟩ := hEx
  rw [← hw0] at hX hN hZ hb hzz
  rw [← hw1] at hw0
  clear hal0 hz0 hX0 hal1 hN1 hX1 hz1 hb1 hw1 hal2
  have HT := Lib.hid hT
  have HW0 := Lib.hid hw0
  clear hT hw0
  have x0 := hX.cell 0
  have x1 := hX.cell 1
  have x2 := hX.cell 2
  have x3 := hX.cell 3
  have x4 := hX.cell 4
  have n0 := hN.cell 0
  have n1 := hN.cell 1
  have n2 := hN.cell 2
  have z0 := hZ.cell 0
  have z1 := hZ.cell 1
  have z2 := hZ.cell 2
  have z3 := hZ.cell 3
  have z4 := hZ.cell 4
  simp only [List.getElem?_toArray, List.getElem?_cons_zero, List.getElem?_cons_succ] at x0 x1 x2 x3 x4 n0 n1 n2 z0 z1 z2 z3 z4
  have f0 := hZ.frozen 0
  have f1 := hZ.frozen 1
  have f2 := hZ.frozen 2
  have f3 := hZ.frozen 3
  have f4 := hZ.frozen 4
  have gx2 := hX.frozen 2
  have gx3 := hX.frozen 3
  have hwe : IntKind.i64.wrap (xe + 1) = xe + 1 := IntWalk.i64_in _ (by omega)
  have hs5 : xs = 1 ∨ xs = 2 ∨ xs = 3 ∨ xs = 4 ∨ ((xs == 1) = false ∧ (xs == 2) = false ∧ (xs == 3) = false ∧ (xs == 4) = false) := by simp; omega
  rcases hs5 with rfl | rfl | rfl | rfl | ⟨s1, s2, s3, s4⟩
  · obtain ⟨rfl, rfl⟩ := tuIs_some (Z := ⟨xp, xe, 2, bits .or .i64 xm m, xl⟩) HT.out (by simp [turnT])
    obtain ⟨M, rfl⟩ := Int.eq_ofNat_of_zero_le hm.1
    obtain ⟨XM, rfl⟩ := Int.eq_ofNat_of_zero_le hxm.1
    have HJ := Lib.hid (fun w => join_walk XM M w (by omega) (by omega))
    generalize bits .or .i64 (XM : Int) (M : Int) = J at *
    go_enter Try.func59, Try.ntmps59
    go_upto_region 1 with fail
    rw [← HW0.out]
    go_wp2_with fail
    refine (HJ.out _).mono ?_
    rintro e w5 ⟨rfl, g5⟩
    have hX5 : Whole w5 w.heap.size 52 #[.int .i64 xp, .int .i64 xe, .int .i64 2, .int .i64 XM, .int .i64 xl] := (hX.set 2 (.int .i64 2)).keep g5
    have hZ5 := (hZ.far w.heap.size 2 (.int .i64 2) (by omega)).keep g5
    have hz5 : w.heap.size + 2 < w5.heap.size := by have := g5.size; simp at this; omega
    have b5 := gtrans (hb.setCell (p := ⟨w.heap.size, 2, none⟩) (Nat.le_refl _) (.int .i64 2)) g5
    clear x0 x1 x2 x3 x4 n0 n1 n2 z0 z1 z2 z3 z4 f0 f1 f2 f3 f4 gx2 gx3 hX hN hZ hzz HW0 hb
    have hb := b5
    have x0 := hX5.cell 0
    have x1 := hX5.cell 1
    have x2 := hX5.cell 2
    have x3 := hX5.cell 3
    have x4 := hX5.cell 4
    have z0 := hZ5.cell 0
    have z1 := hZ5.cell 1
    have z2 := hZ5.cell 2
    have z3 := hZ5.cell 3
    have z4 := hZ5.cell 4
    simp only [List.getElem?_toArray, List.getElem?_cons_zero, List.getElem?_cons_succ] at x0 x1 x2 x3 x4 z0 z1 z2 z3 z4
    have f0 := hZ5.frozen 0
    have f1 := hZ5.frozen 1
    have f2 := hZ5.frozen 2
    have f3 := hZ5.frozen 3
    have f4 := hZ5.frozen 4
    have gx3 := hX5.frozen 3
    go_wp2_with fail
    refine bodyPost_ret (v := .tuple #[.agg #[.int .i64 xp, .int .i64 xe, .int .i64 2, .int .i64 J, .int .i64 xl], .int .i64 0]) (by simp [results, Try.results59, go_sem, x0, x1, x2, x3, x4, z0, z1, z2, z3, z4]) rfl ⟨rfl, ?_⟩
    exact ((((((hb.setCell (p := ⟨w.heap.size, 3, none⟩) (Nat.le_refl _) _).setCell (p := ⟨w.heap.size + 2, 0, none⟩) (Nat.le_add_right _ _) _).setCell (p := ⟨w.heap.size + 2, 1, none⟩) (Nat.le_add_right _ _) _).setCell (p := ⟨w.heap.size + 2, 2, none⟩) (Nat.le_add_right _ _) _).setCell (p := ⟨w.heap.size + 2, 3, none⟩) (Nat.le_add_right _ _) _).setCell (p := ⟨w.heap.size + 2, 4, none⟩) (Nat.le_add_right _ _) _)
  · obtain ⟨rfl, rfl⟩ := tuIs_some (Z := ⟨xp, xe, 2, bits .or .i64 xm m, xl⟩) HT.out (by simp [turnT])
    obtain ⟨M, rfl⟩ := Int.eq_ofNat_of_zero_le hm.1
    obtain ⟨XM, rfl⟩ := Int.eq_ofNat_of_zero_le hxm.1
    have HJ := Lib.hid (fun w => join_walk XM M w (by omega) (by omega))
    generalize bits .or .i64 (XM : Int) (M : Int) = J at *
    go_enter Try.func59, Try.ntmps59
    go_upto_region 1 with fail
    rw [← HW0.out]
    go_wp2_with fail
    refine (HJ.out _).mono ?_
    rintro e w5 ⟨rfl, g5⟩
    have hX5 : Whole w5 w.heap.size 52 #[.int .i64 xp, .int .i64 xe, .int .i64 2, .int .i64 XM, .int .i64 xl] := (hX.set 2 (.int .i64 2)).keep g5
    have hZ5 := (hZ.far w.heap.size 2 (.int .i64 2) (by omega)).keep g5
    have hz5 : w.heap.size + 2 < w5.heap.size := by have := g5.size; simp at this; omega
    have b5 := gtrans (hb.setCell (p := ⟨w.heap.size, 2, none⟩) (Nat.le_refl _) (.int .i64 2)) g5
    clear x0 x1 x2 x3 x4 n0 n1 n2 z0 z1 z2 z3 z4 f0 f1 f2 f3 f4 gx2 gx3 hX hN hZ hzz HW0 hb
    have hb := b5
    have x0 := hX5.cell 0
    have x1 := hX5.cell 1
    have x2 := hX5.cell 2
    have x3 := hX5.cell 3
    have x4 := hX5.cell 4
    have z0 := hZ5.cell 0
    have z1 := hZ5.cell 1
    have z2 := hZ5.cell 2
    have z3 := hZ5.cell 3
    have z4 := hZ5.cell 4
    simp only [List.getElem?_toArray, List.getElem?_cons_zero, List.getElem?_cons_succ] at x0 x1 x2 x3 x4 z0 z1 z2 z3 z4
    have f0 := hZ5.frozen 0
    have f1 := hZ5.frozen 1
    have f2 := hZ5.frozen 2
    have f3 := hZ5.frozen 3
    have f4 := hZ5.frozen 4
    have gx3 := hX5.frozen 3
    go_wp2_with fail
    refine bodyPost_ret (v := .tuple #[.agg #[.int .i64 xp, .int .i64 xe, .int .i64 2, .int .i64 J, .int .i64 xl], .int .i64 0]) (by simp [results, Try.results59, go_sem, x0, x1, x2, x3, x4, z0, z1, z2, z3, z4]) rfl ⟨rfl, ?_⟩
    exact ((((((hb.setCell (p := ⟨w.heap.size, 3, none⟩) (Nat.le_refl _) _).setCell (p := ⟨w.heap.size + 2, 0, none⟩) (Nat.le_add_right _ _) _).setCell (p := ⟨w.heap.size + 2, 1, none⟩) (Nat.le_add_right _ _) _).setCell (p := ⟨w.heap.size + 2, 2, none⟩) (Nat.le_add_right _ _) _).setCell (p := ⟨w.heap.size + 2, 3, none⟩) (Nat.le_add_right _ _) _).setCell (p := ⟨w.heap.size + 2, 4, none⟩) (Nat.le_add_right _ _) _)
  · obtain ⟨rfl, rfl⟩ := tuIs_none HT.out (by simp [turnT])
    go_enter Try.func59, Try.ntmps59
    go_upto_region 1 with fail
    rw [← HW0.out]
    go_wp2_with fail
    refine bodyPost_ret (v := .tuple #[.agg #[.int .i64 0, .int .i64 0, .int .i64 0, .int .i64 0, .int .i64 0], .int .i64 9]) (by simp [results, Try.results59, go_sem, x0, x1, x2, x3, x4, z0, z1, z2, z3, z4]) rfl ⟨rfl, ?_⟩
    exact (((((hb.setCell (p := ⟨w.heap.size + 2, 0, none⟩) (Nat.le_add_right _ _) _).setCell (p := ⟨w.heap.size + 2, 1, none⟩) (Nat.le_add_right _ _) _).setCell (p := ⟨w.heap.size + 2, 2, none⟩) (Nat.le_add_right _ _) _).setCell (p := ⟨w.heap.size + 2, 3, none⟩) (Nat.le_add_right _ _) _).setCell (p := ⟨w.heap.size + 2, 4, none⟩) (Nat.le_add_right _ _) _)
  · obtain ⟨rfl, rfl⟩ := tuIs_none HT.out (by simp [turnT])
    go_enter Try.func59, Try.ntmps59
    go_upto_region 1 with fail
    rw [← HW0.out]
    go_wp2_with fail
    refine bodyPost_ret (v := .tuple #[.agg #[.int .i64 0, .int .i64 0, .int .i64 0, .int .i64 0, .int .i64 0], .int .i64 9]) (by simp [results, Try.results59, go_sem, x0, x1, x2, x3, x4, z0, z1, z2, z3, z4]) rfl ⟨rfl, ?_⟩
    exact (((((hb.setCell (p := ⟨w.heap.size + 2, 0, none⟩) (Nat.le_add_right _ _) _).setCell (p := ⟨w.heap.size + 2, 1, none⟩) (Nat.le_add_right _ _) _).setCell (p := ⟨w.heap.size + 2, 2, none⟩) (Nat.le_add_right _ _) _).setCell (p := ⟨w.heap.size + 2, 3, none⟩) (Nat.le_add_right _ _) _).setCell (p := ⟨w.heap.size + 2, 4, none⟩) (Nat.le_add_right _ _) _)
  · obtain ⟨rfl, rfl⟩ := tuIs_none HT.out (by simp at s1 s2 s3 s4; simp [turnT, s1, s2, s3, s4])
    go_enter Try.func59, Try.ntmps59
    go_upto_region 1 with fail
    rw [← HW0.out]
    go_wp2_with fail
    refine bodyPost_ret (v := .tuple #[.agg #[.int .i64 0, .int .i64 0, .int .i64 0, .int .i64 0, .int .i64 0], .int .i64 9]) (by simp [results, Try.results59, go_sem, x0, x1, x2, x3, x4, z0, z1, z2, z3, z4]) rfl ⟨rfl, ?_⟩
    exact (((((hb.setCell (p := ⟨w.heap.size + 2, 0, none⟩) (Nat.le_add_right _ _) _).setCell (p := ⟨w.heap.size + 2, 1, none⟩) (Nat.le_add_right _ _) _).setCell (p := ⟨w.heap.size + 2, 2, none⟩) (Nat.le_add_right _ _) _).setCell (p := ⟨w.heap.size + 2, 3, none⟩) (Nat.le_add_right _ _) _).setCell (p := ⟨w.heap.size + 2, 4, none⟩) (Nat.le_add_right _ _) _)
set_option maxRecDepth 100000 in
set_option maxHeartbeats 8000000 in
theorem rturn3 (x : Tr) (p m : Int) (w : World) (Y : Tr) (E : Int) (hT : TuIs x 3 m Y E) (he : 1 ≤ x.e ∧ x.e ≤ 1099511627776) (hm : 0 ≤ m ∧ m < 8192) (hxm : 0 ≤ x.m ∧ x.m < 8192) :
    Calls Try.prog 59 #[.agg #[.int .i64 x.p, .int .i64 x.e, .int .i64 x.s, .int .i64 x.m, .int .i64 x.l], .agg #[.int .i64 3, .int .i64 p, .int .i64 m]] w (RrPost w Y E) := by
  obtain ⟨xp, xe, xs, xm, xl⟩ := x
  simp only at he hxm ⊢
  have hal0 := balloc w (.cells #[.int .i64 xp, .int .i64 xe, .int .i64 xs, .int .i64 xm, .int .i64 xl] 52)
  have hz0 : (w.alloc (.cells #[.int .i64 xp, .int .i64 xe, .int .i64 xs, .int .i64 xm, .int .i64 xl] 52)).heap.size = w.heap.size + 1 := by simp
  have hX0 := Whole.new w 52 #[.int .i64 xp, .int .i64 xe, .int .i64 xs, .int .i64 xm, .int .i64 xl]
  have hal1 := balloc (w.alloc (.cells #[.int .i64 xp, .int .i64 xe, .int .i64 xs, .int .i64 xm, .int .i64 xl] 52)) (.cells #[.int .i64 3, .int .i64 p, .int .i64 m] 50)
  have hN1 := Whole.new (w.alloc (.cells #[.int .i64 xp, .int .i64 xe, .int .i64 xs, .int .i64 xm, .int .i64 xl] 52)) 50 #[.int .i64 3, .int .i64 p, .int .i64 m]
  rw [hz0] at hN1
  have hX1 := hX0.keep hal1
  have hz1 : ((w.alloc (.cells #[.int .i64 xp, .int .i64 xe, .int .i64 xs, .int .i64 xm, .int .i64 xl] 52)).alloc (.cells #[.int .i64 3, .int .i64 p, .int .i64 m] 50)).heap.size = w.heap.size + 2 := by simp
  have hb1 := gtrans hal0 hal1
  generalize hw1 : (w.alloc (.cells #[.int .i64 xp, .int .i64 xe, .int .i64 xs, .int .i64 xm, .int .i64 xl] 52)).alloc (.cells #[.int .i64 3, .int .i64 p, .int .i64 m] 50) = w1 at *
  have hal2 := balloc w1 (.cells #[.int .i64 0, .int .i64 0, .int .i64 0, .int .i64 0, .int .i64 0] 52)
  have hZ := Whole.new w1 52 #[.int .i64 0, .int .i64 0, .int .i64 0, .int .i64 0, .int .i64 0]
  rw [hz1] at hZ
  have hX := hX1.keep hal2
  have hN := hN1.keep hal2
  have hb := gtrans hb1 hal2
  have hzz : w.heap.size + 2 < (w1.alloc (.cells #[.int .i64 0, .int .i64 0, .int .i64 0, .int .i64 0, .int .i64 0] 52)).heap.size := by simp; omega
  have hEx : ∃ w0, w0 = w1.alloc (.cells #[.int .i64 0, .int .i64 0, .int .i64 0, .int .i64 0, .int .i64 0] 52) := ⟨_, rfl⟩
  obtain ⟨w0, hw0⟩ := hEx
  rw [← hw0] at hX hN hZ hb hzz
  rw [← hw1] at hw0
  clear hal0 hz0 hX0 hal1 hN1 hX1 hz1 hb1 hw1 hal2
  have HT := Lib.hid hT
  have HW0 := Lib.hid hw0
  clear hT hw0
  have x0 := hX.cell 0
  have x1 := hX.cell 1
  have x2 := hX.cell 2
  have x3 := hX.cell 3
  have x4 := hX.cell 4
  have n0 := hN.cell 0
  have n1 := hN.cell 1
  have n2 := hN.cell 2
  have z0 := hZ.cell 0
  have z1 := hZ.cell 1
  have z2 := hZ.cell 2
  have z3 := hZ.cell 3
  have z4 := hZ.cell 4
  simp only [List.getElem?_toArray, List.getElem?_cons_zero, List.getElem?_cons_succ] at x0 x1 x2 x3 x4 n0 n1 n2 z0 z1 z2 z3 z4
  have f0 := hZ.frozen 0
  have f1 := hZ.frozen 1
  have f2 := hZ.frozen 2
  have f3 := hZ.frozen 3
  have f4 := hZ.frozen 4
  have gx2 := hX.frozen 2
  have gx3 := hX.frozen 3
  have hwe : IntKind.i64.wrap (xe + 1) = xe + 1 := IntWalk.i64_in _ (by omega)
  have hs5 : xs = 1 ∨ xs = 2 ∨ xs = 3 ∨ xs = 4 ∨ ((xs == 1) = false ∧ (xs == 2) = false ∧ (xs == 3) = false ∧ (xs == 4) = false) := by simp; omega
  rcases hs5 with rfl | rfl | rfl | rfl | ⟨s1, s2, s3, s4⟩
  · obtain ⟨rfl, rfl⟩ := tuIs_none HT.out (by simp [turnT])
    go_enter Try.func59, Try.ntmps59
    go_upto_region 1 with fail
    rw [← HW0.out]
    go_wp2_with fail
    refine bodyPost_ret (v := .tuple #[.agg #[.int .i64 0, .int .i64 0, .int .i64 0, .int .i64 0, .int .i64 0], .int .i64 9]) (by simp [results, Try.results59, go_sem, x0, x1, x2, x3, x4, z0, z1, z2, z3, z4]) rfl ⟨rfl, ?_⟩
    exact (((((hb.setCell (p := ⟨w.heap.size + 2, 0, none⟩) (Nat.le_add_right _ _) _).setCell (p := ⟨w.heap.size + 2, 1, none⟩) (Nat.le_add_right _ _) _).setCell (p := ⟨w.heap.size + 2, 2, none⟩) (Nat.le_add_right _ _) _).setCell (p := ⟨w.heap.size + 2, 3, none⟩) (Nat.le_add_right _ _) _).setCell (p := ⟨w.heap.size + 2, 4, none⟩) (Nat.le_add_right _ _) _)
  · obtain ⟨rfl, rfl⟩ := tuIs_some (Z := ⟨xp, xe, 3, xm, xl⟩) HT.out (by simp [turnT])
    go_enter Try.func59, Try.ntmps59
    go_upto_region 1 with fail
    rw [← HW0.out]
    go_wp2_with fail
    refine bodyPost_ret (v := .tuple #[.agg #[.int .i64 xp, .int .i64 xe, .int .i64 3, .int .i64 xm, .int .i64 xl], .int .i64 0]) (by simp [results, Try.results59, go_sem, x0, x1, x2, x3, x4, z0, z1, z2, z3, z4]) rfl ⟨rfl, ?_⟩
    exact ((((((hb.setCell (p := ⟨w.heap.size, 2, none⟩) (Nat.le_refl _) _).setCell (p := ⟨w.heap.size + 2, 0, none⟩) (Nat.le_add_right _ _) _).setCell (p := ⟨w.heap.size + 2, 1, none⟩) (Nat.le_add_right _ _) _).setCell (p := ⟨w.heap.size + 2, 2, none⟩) (Nat.le_add_right _ _) _).setCell (p := ⟨w.heap.size + 2, 3, none⟩) (Nat.le_add_right _ _) _).setCell (p := ⟨w.heap.size + 2, 4, none⟩) (Nat.le_add_right _ _) _)
  · obtain ⟨rfl, rfl⟩ := tuIs_none HT.out (by simp [turnT])
    go_enter Try.func59, Try.ntmps59
    go_upto_region 1 with fail
    rw [← HW0.out]
    go_wp2_with fail
    refine bodyPost_ret (v := .tuple #[.agg #[.int .i64 0, .int .i64 0, .int .i64 0, .int .i64 0, .int .i64 0], .int .i64 9]) (by simp [results, Try.results59, go_sem, x0, x1, x2, x3, x4, z0, z1, z2, z3, z4]) rfl ⟨rfl, ?_⟩
    exact (((((hb.setCell (p := ⟨w.heap.size + 2, 0, none⟩) (Nat.le_add_right _ _) _).setCell (p := ⟨w.heap.size + 2, 1, none⟩) (Nat.le_add_right _ _) _).setCell (p := ⟨w.heap.size + 2, 2, none⟩) (Nat.le_add_right _ _) _).setCell (p := ⟨w.heap.size + 2, 3, none⟩) (Nat.le_add_right _ _) _).setCell (p := ⟨w.heap.size + 2, 4, none⟩) (Nat.le_add_right _ _) _)
  · obtain ⟨rfl, rfl⟩ := tuIs_none HT.out (by simp [turnT])
    go_enter Try.func59, Try.ntmps59
    go_upto_region 1 with fail
    rw [← HW0.out]
    go_wp2_with fail
    refine bodyPost_ret (v := .tuple #[.agg #[.int .i64 0, .int .i64 0, .int .i64 0, .int .i64 0, .int .i64 0], .int .i64 9]) (by simp [results, Try.results59, go_sem, x0, x1, x2, x3, x4, z0, z1, z2, z3, z4]) rfl ⟨rfl, ?_⟩
    exact (((((hb.setCell (p := ⟨w.heap.size + 2, 0, none⟩) (Nat.le_add_right _ _) _).setCell (p := ⟨w.heap.size + 2, 1, none⟩) (Nat.le_add_right _ _) _).setCell (p := ⟨w.heap.size + 2, 2, none⟩) (Nat.le_add_right _ _) _).setCell (p := ⟨w.heap.size + 2, 3, none⟩) (Nat.le_add_right _ _) _).setCell (p := ⟨w.heap.size + 2, 4, none⟩) (Nat.le_add_right _ _) _)
  · obtain ⟨rfl, rfl⟩ := tuIs_none HT.out (by simp at s1 s2 s3 s4; simp [turnT, s1, s2, s3, s4])
    go_enter Try.func59, Try.ntmps59
    go_upto_region 1 with fail
    rw [← HW0.out]
    go_wp2_with fail
    refine bodyPost_ret (v := .tuple #[.agg #[.int .i64 0, .int .i64 0, .int .i64 0, .int .i64 0, .int .i64 0], .int .i64 9]) (by simp [results, Try.results59, go_sem, x0, x1, x2, x3, x4, z0, z1, z2, z3, z4]) rfl ⟨rfl, ?_⟩
    exact (((((hb.setCell (p := ⟨w.heap.size + 2, 0, none⟩) (Nat.le_add_right _ _) _).setCell (p := ⟨w.heap.size + 2, 1, none⟩) (Nat.le_add_right _ _) _).setCell (p := ⟨w.heap.size + 2, 2, none⟩) (Nat.le_add_right _ _) _).setCell (p := ⟨w.heap.size + 2, 3, none⟩) (Nat.le_add_right _ _) _).setCell (p := ⟨w.heap.size + 2, 4, none⟩) (Nat.le_add_right _ _) _)
set_option maxRecDepth 100000 in
set_option maxHeartbeats 8000000 in
theorem rturn4 (x : Tr) (p m : Int) (w : World) (Y : Tr) (E : Int) (hT : TuIs x 4 m Y E) (he : 1 ≤ x.e ∧ x.e ≤ 1099511627776) (hm : 0 ≤ m ∧ m < 8192) (hxm : 0 ≤ x.m ∧ x.m < 8192) :
    Calls Try.prog 59 #[.agg #[.int .i64 x.p, .int .i64 x.e, .int .i64 x.s, .int .i64 x.m, .int .i64 x.l], .agg #[.int .i64 4, .int .i64 p, .int .i64 m]] w (RrPost w Y E) := by
  obtain ⟨xp, xe, xs, xm, xl⟩ := x
  simp only at he hxm ⊢
  have hal0 := balloc w (.cells #[.int .i64 xp, .int .i64 xe, .int .i64 xs, .int .i64 xm, .int .i64 xl] 52)
  have hz0 : (w.alloc (.cells #[.int .i64 xp, .int .i64 xe, .int .i64 xs, .int .i64 xm, .int .i64 xl] 52)).heap.size = w.heap.size + 1 := by simp
  have hX0 := Whole.new w 52 #[.int .i64 xp, .int .i64 xe, .int .i64 xs, .int .i64 xm, .int .i64 xl]
  have hal1 := balloc (w.alloc (.cells #[.int .i64 xp, .int .i64 xe, .int .i64 xs, .int .i64 xm, .int .i64 xl] 52)) (.cells #[.int .i64 4, .int .i64 p, .int .i64 m] 50)
  have hN1 := Whole.new (w.alloc (.cells #[.int .i64 xp, .int .i64 xe, .int .i64 xs, .int .i64 xm, .int .i64 xl] 52)) 50 #[.int .i64 4, .int .i64 p, .int .i64 m]
  rw [hz0] at hN1
  have hX1 := hX0.keep hal1
  have hz1 : ((w.alloc (.cells #[.int .i64 xp, .int .i64 xe, .int .i64 xs, .int .i64 xm, .int .i64 xl] 52)).alloc (.cells #[.int .i64 4, .int .i64 p, .int .i64 m] 50)).heap.size = w.heap.size + 2 := by simp
  have hb1 := gtrans hal0 hal1
  generalize hw1 : (w.alloc (.cells #[.int .i64 xp, .int .i64 xe, .int .i64 xs, .int .i64 xm, .int .i64 xl] 52)).alloc (.cells #[.int .i64 4, .int .i64 p, .int .i64 m] 50) = w1 at *
  have hal2 := balloc w1 (.cells #[.int .i64 0, .int .i64 0, .int .i64 0, .int .i64 0, .int .i64 0] 52)
  have hZ := Whole.new w1 52 #[.int .i64 0, .int .i64 0, .int .i64 0, .int .i64 0, .int .i64 0]
  rw [hz1] at hZ
  have hX := hX1.keep hal2
  have hN := hN1.keep hal2
  have hb := gtrans hb1 hal2
  have hzz : w.heap.size + 2 < (w1.alloc (.cells #[.int .i64 0, .int .i64 0, .int .i64 0, .int .i64 0, .int .i64 0] 52)).heap.size := by simp; omega
  have hEx : ∃ w0, w0 = w1.alloc (.cells #[.int .i64 0, .int .i64 0, .int .i64 0, .int .i64 0, .int .i64 0] 52) := ⟨_, rfl⟩
  obtain ⟨w0, hw0⟩ := hEx
  rw [← hw0] at hX hN hZ hb hzz
  rw [← hw1] at hw0
  clear hal0 hz0 hX0 hal1 hN1 hX1 hz1 hb1 hw1 hal2
  have HT := Lib.hid hT
  have HW0 := Lib.hid hw0
  clear hT hw0
  have x0 := hX.cell 0
  have x1 := hX.cell 1
  have x2 := hX.cell 2
  have x3 := hX.cell 3
  have x4 := hX.cell 4
  have n0 := hN.cell 0
  have n1 := hN.cell 1
  have n2 := hN.cell 2
  have z0 := hZ.cell 0
  have z1 := hZ.cell 1
  have z2 := hZ.cell 2
  have z3 := hZ.cell 3
  have z4 := hZ.cell 4
  simp only [List.getElem?_toArray, List.getElem?_cons_zero, List.getElem?_cons_succ] at x0 x1 x2 x3 x4 n0 n1 n2 z0 z1 z2 z3 z4
  have f0 := hZ.frozen 0
  have f1 := hZ.frozen 1
  have f2 := hZ.frozen 2
  have f3 := hZ.frozen 3
  have f4 := hZ.frozen 4
  have gx2 := hX.frozen 2
  have gx3 := hX.frozen 3
  have hwe : IntKind.i64.wrap (xe + 1) = xe + 1 := IntWalk.i64_in _ (by omega)
  have hs5 : xs = 1 ∨ xs = 2 ∨ xs = 3 ∨ xs = 4 ∨ ((xs == 1) = false ∧ (xs == 2) = false ∧ (xs == 3) = false ∧ (xs == 4) = false) := by simp; omega
  rcases hs5 with rfl | rfl | rfl | rfl | ⟨s1, s2, s3, s4⟩
  · obtain ⟨rfl, rfl⟩ := tuIs_none HT.out (by simp [turnT])
    go_enter Try.func59, Try.ntmps59
    go_upto_region 1 with fail
    rw [← HW0.out]
    go_wp2_with fail
    refine bodyPost_ret (v := .tuple #[.agg #[.int .i64 0, .int .i64 0, .int .i64 0, .int .i64 0, .int .i64 0], .int .i64 9]) (by simp [results, Try.results59, go_sem, x0, x1, x2, x3, x4, z0, z1, z2, z3, z4]) rfl ⟨rfl, ?_⟩
    exact (((((hb.setCell (p := ⟨w.heap.size + 2, 0, none⟩) (Nat.le_add_right _ _) _).setCell (p := ⟨w.heap.size + 2, 1, none⟩) (Nat.le_add_right _ _) _).setCell (p := ⟨w.heap.size + 2, 2, none⟩) (Nat.le_add_right _ _) _).setCell (p := ⟨w.heap.size + 2, 3, none⟩) (Nat.le_add_right _ _) _).setCell (p := ⟨w.heap.size + 2, 4, none⟩) (Nat.le_add_right _ _) _)
  · obtain ⟨rfl, rfl⟩ := tuIs_some (Z := ⟨xp, xe, 4, xm, xl⟩) HT.out (by simp [turnT])
    go_enter Try.func59, Try.ntmps59
    go_upto_region 1 with fail
    rw [← HW0.out]
    go_wp2_with fail
    refine bodyPost_ret (v := .tuple #[.agg #[.int .i64 xp, .int .i64 xe, .int .i64 4, .int .i64 xm, .int .i64 xl], .int .i64 0]) (by simp [results, Try.results59, go_sem, x0, x1, x2, x3, x4, z0, z1, z2, z3, z4]) rfl ⟨rfl, ?_⟩
    exact ((((((hb.setCell (p := ⟨w.heap.size, 2, none⟩) (Nat.le_refl _) _).setCell (p := ⟨w.heap.size + 2, 0, none⟩) (Nat.le_add_right _ _) _).setCell (p := ⟨w.heap.size + 2, 1, none⟩) (Nat.le_add_right _ _) _).setCell (p := ⟨w.heap.size + 2, 2, none⟩) (Nat.le_add_right _ _) _).setCell (p := ⟨w.heap.size + 2, 3, none⟩) (Nat.le_add_right _ _) _).setCell (p := ⟨w.heap.size + 2, 4, none⟩) (Nat.le_add_right _ _) _)
  · obtain ⟨rfl, rfl⟩ := tuIs_none HT.out (by simp [turnT])
    go_enter Try.func59, Try.ntmps59
    go_upto_region 1 with fail
    rw [← HW0.out]
    go_wp2_with fail
    refine bodyPost_ret (v := .tuple #[.agg #[.int .i64 0, .int .i64 0, .int .i64 0, .int .i64 0, .int .i64 0], .int .i64 9]) (by simp [results, Try.results59, go_sem, x0, x1, x2, x3, x4, z0, z1, z2, z3, z4]) rfl ⟨rfl, ?_⟩
    exact (((((hb.setCell (p := ⟨w.heap.size + 2, 0, none⟩) (Nat.le_add_right _ _) _).setCell (p := ⟨w.heap.size + 2, 1, none⟩) (Nat.le_add_right _ _) _).setCell (p := ⟨w.heap.size + 2, 2, none⟩) (Nat.le_add_right _ _) _).setCell (p := ⟨w.heap.size + 2, 3, none⟩) (Nat.le_add_right _ _) _).setCell (p := ⟨w.heap.size + 2, 4, none⟩) (Nat.le_add_right _ _) _)
  · obtain ⟨rfl, rfl⟩ := tuIs_none HT.out (by simp [turnT])
    go_enter Try.func59, Try.ntmps59
    go_upto_region 1 with fail
    rw [← HW0.out]
    go_wp2_with fail
    refine bodyPost_ret (v := .tuple #[.agg #[.int .i64 0, .int .i64 0, .int .i64 0, .int .i64 0, .int .i64 0], .int .i64 9]) (by simp [results, Try.results59, go_sem, x0, x1, x2, x3, x4, z0, z1, z2, z3, z4]) rfl ⟨rfl, ?_⟩
    exact (((((hb.setCell (p := ⟨w.heap.size + 2, 0, none⟩) (Nat.le_add_right _ _) _).setCell (p := ⟨w.heap.size + 2, 1, none⟩) (Nat.le_add_right _ _) _).setCell (p := ⟨w.heap.size + 2, 2, none⟩) (Nat.le_add_right _ _) _).setCell (p := ⟨w.heap.size + 2, 3, none⟩) (Nat.le_add_right _ _) _).setCell (p := ⟨w.heap.size + 2, 4, none⟩) (Nat.le_add_right _ _) _)
  · obtain ⟨rfl, rfl⟩ := tuIs_none HT.out (by simp at s1 s2 s3 s4; simp [turnT, s1, s2, s3, s4])
    go_enter Try.func59, Try.ntmps59
    go_upto_region 1 with fail
    rw [← HW0.out]
    go_wp2_with fail
    refine bodyPost_ret (v := .tuple #[.agg #[.int .i64 0, .int .i64 0, .int .i64 0, .int .i64 0, .int .i64 0], .int .i64 9]) (by simp [results, Try.results59, go_sem, x0, x1, x2, x3, x4, z0, z1, z2, z3, z4]) rfl ⟨rfl, ?_⟩
    exact (((((hb.setCell (p := ⟨w.heap.size + 2, 0, none⟩) (Nat.le_add_right _ _) _).setCell (p := ⟨w.heap.size + 2, 1, none⟩) (Nat.le_add_right _ _) _).setCell (p := ⟨w.heap.size + 2, 2, none⟩) (Nat.le_add_right _ _) _).setCell (p := ⟨w.heap.size + 2, 3, none⟩) (Nat.le_add_right _ _) _).setCell (p := ⟨w.heap.size + 2, 4, none⟩) (Nat.le_add_right _ _) _)
set_option maxRecDepth 100000 in
set_option maxHeartbeats 8000000 in
theorem rturn5 (x : Tr) (p m : Int) (w : World) (Y : Tr) (E : Int) (hT : TuIs x 5 m Y E) (he : 1 ≤ x.e ∧ x.e ≤ 1099511627776) (hm : 0 ≤ m ∧ m < 8192) (hxm : 0 ≤ x.m ∧ x.m < 8192) :
    Calls Try.prog 59 #[.agg #[.int .i64 x.p, .int .i64 x.e, .int .i64 x.s, .int .i64 x.m, .int .i64 x.l], .agg #[.int .i64 5, .int .i64 p, .int .i64 m]] w (RrPost w Y E) := by
  obtain ⟨xp, xe, xs, xm, xl⟩ := x
  simp only at he hxm ⊢
  have hal0 := balloc w (.cells #[.int .i64 xp, .int .i64 xe, .int .i64 xs, .int .i64 xm, .int .i64 xl] 52)
  have hz0 : (w.alloc (.cells #[.int .i64 xp, .int .i64 xe, .int .i64 xs, .int .i64 xm, .int .i64 xl] 52)).heap.size = w.heap.size + 1 := by simp
  have hX0 := Whole.new w 52 #[.int .i64 xp, .int .i64 xe, .int .i64 xs, .int .i64 xm, .int .i64 xl]
  have hal1 := balloc (w.alloc (.cells #[.int .i64 xp, .int .i64 xe, .int .i64 xs, .int .i64 xm, .int .i64 xl] 52)) (.cells #[.int .i64 5, .int .i64 p, .int .i64 m] 50)
  have hN1 := Whole.new (w.alloc (.cells #[.int .i64 xp, .int .i64 xe, .int .i64 xs, .int .i64 xm, .int .i64 xl] 52)) 50 #[.int .i64 5, .int .i64 p, .int .i64 m]
  rw [hz0] at hN1
  have hX1 := hX0.keep hal1
  have hz1 : ((w.alloc (.cells #[.int .i64 xp, .int .i64 xe, .int .i64 xs, .int .i64 xm, .int .i64 xl] 52)).alloc (.cells #[.int .i64 5, .int .i64 p, .int .i64 m] 50)).heap.size = w.heap.size + 2 := by simp
  have hb1 := gtrans hal0 hal1
  generalize hw1 : (w.alloc (.cells #[.int .i64 xp, .int .i64 xe, .int .i64 xs, .int .i64 xm, .int .i64 xl] 52)).alloc (.cells #[.int .i64 5, .int .i64 p, .int .i64 m] 50) = w1 at *
  have hal2 := balloc w1 (.cells #[.int .i64 0, .int .i64 0, .int .i64 0, .int .i64 0, .int .i64 0] 52)
  have hZ := Whole.new w1 52 #[.int .i64 0, .int .i64 0, .int .i64 0, .int .i64 0, .int .i64 0]
  rw [hz1] at hZ
  have hX := hX1.keep hal2
  have hN := hN1.keep hal2
  have hb := gtrans hb1 hal2
  have hzz : w.heap.size + 2 < (w1.alloc (.cells #[.int .i64 0, .int .i64 0, .int .i64 0, .int .i64 0, .int .i64 0] 52)).heap.size := by simp; omega
  have hEx : ∃ w0, w0 = w1.alloc (.cells #[.int .i64 0, .int .i64 0, .int .i64 0, .int .i64 0, .int .i64 0] 52) := ⟨_, rfl⟩
  obtain ⟨w0, hw0⟩ := hEx
  rw [← hw0] at hX hN hZ hb hzz
  rw [← hw1] at hw0
  clear hal0 hz0 hX0 hal1 hN1 hX1 hz1 hb1 hw1 hal2
  have HT := Lib.hid hT
  have HW0 := Lib.hid hw0
  clear hT hw0
  have x0 := hX.cell 0
  have x1 := hX.cell 1
  have x2 := hX.cell 2
  have x3 := hX.cell 3
  have x4 := hX.cell 4
  have n0 := hN.cell 0
  have n1 := hN.cell 1
  have n2 := hN.cell 2
  have z0 := hZ.cell 0
  have z1 := hZ.cell 1
  have z2 := hZ.cell 2
  have z3 := hZ.cell 3
  have z4 := hZ.cell 4
  simp only [List.getElem?_toArray, List.getElem?_cons_zero, List.getElem?_cons_succ] at x0 x1 x2 x3 x4 n0 n1 n2 z0 z1 z2 z3 z4
  have f0 := hZ.frozen 0
  have f1 := hZ.frozen 1
  have f2 := hZ.frozen 2
  have f3 := hZ.frozen 3
  have f4 := hZ.frozen 4
  have gx2 := hX.frozen 2
  have gx3 := hX.frozen 3
  have hwe : IntKind.i64.wrap (xe + 1) = xe + 1 := IntWalk.i64_in _ (by omega)
  have hs5 : xs = 1 ∨ xs = 2 ∨ xs = 3 ∨ xs = 4 ∨ ((xs == 1) = false ∧ (xs == 2) = false ∧ (xs == 3) = false ∧ (xs == 4) = false) := by simp; omega
  rcases hs5 with rfl | rfl | rfl | rfl | ⟨s1, s2, s3, s4⟩
  · obtain ⟨rfl, rfl⟩ := tuIs_none HT.out (by simp [turnT])
    go_enter Try.func59, Try.ntmps59
    go_upto_region 1 with fail
    rw [← HW0.out]
    go_wp2_with fail
    refine bodyPost_ret (v := .tuple #[.agg #[.int .i64 0, .int .i64 0, .int .i64 0, .int .i64 0, .int .i64 0], .int .i64 9]) (by simp [results, Try.results59, go_sem, x0, x1, x2, x3, x4, z0, z1, z2, z3, z4]) rfl ⟨rfl, ?_⟩
    exact (((((hb.setCell (p := ⟨w.heap.size + 2, 0, none⟩) (Nat.le_add_right _ _) _).setCell (p := ⟨w.heap.size + 2, 1, none⟩) (Nat.le_add_right _ _) _).setCell (p := ⟨w.heap.size + 2, 2, none⟩) (Nat.le_add_right _ _) _).setCell (p := ⟨w.heap.size + 2, 3, none⟩) (Nat.le_add_right _ _) _).setCell (p := ⟨w.heap.size + 2, 4, none⟩) (Nat.le_add_right _ _) _)
  · obtain ⟨rfl, rfl⟩ := tuIs_none HT.out (by simp [turnT])
    go_enter Try.func59, Try.ntmps59
    go_upto_region 1 with fail
    rw [← HW0.out]
    go_wp2_with fail
    refine bodyPost_ret (v := .tuple #[.agg #[.int .i64 0, .int .i64 0, .int .i64 0, .int .i64 0, .int .i64 0], .int .i64 9]) (by simp [results, Try.results59, go_sem, x0, x1, x2, x3, x4, z0, z1, z2, z3, z4]) rfl ⟨rfl, ?_⟩
    exact (((((hb.setCell (p := ⟨w.heap.size + 2, 0, none⟩) (Nat.le_add_right _ _) _).setCell (p := ⟨w.heap.size + 2, 1, none⟩) (Nat.le_add_right _ _) _).setCell (p := ⟨w.heap.size + 2, 2, none⟩) (Nat.le_add_right _ _) _).setCell (p := ⟨w.heap.size + 2, 3, none⟩) (Nat.le_add_right _ _) _).setCell (p := ⟨w.heap.size + 2, 4, none⟩) (Nat.le_add_right _ _) _)
  · obtain ⟨rfl, rfl⟩ := tuIs_some (Z := ⟨xp, xe + 1, 1, 0, 3⟩) HT.out (by simp [turnT])
    go_enter Try.func59, Try.ntmps59
    go_upto_region 1 with fail
    rw [← HW0.out]
    go_wp2_with fail
    refine bodyPost_ret (v := .tuple #[.agg #[.int .i64 xp, .int .i64 (xe + 1), .int .i64 1, .int .i64 0, .int .i64 3], .int .i64 0]) (by simp [results, Try.results59, go_sem, x0, x1, x2, x3, x4, z0, z1, z2, z3, z4]) rfl ⟨rfl, ?_⟩
    exact (((((hb.setCell (p := ⟨w.heap.size + 2, 0, none⟩) (Nat.le_add_right _ _) _).setCell (p := ⟨w.heap.size + 2, 1, none⟩) (Nat.le_add_right _ _) _).setCell (p := ⟨w.heap.size + 2, 2, none⟩) (Nat.le_add_right _ _) _).setCell (p := ⟨w.heap.size + 2, 3, none⟩) (Nat.le_add_right _ _) _).setCell (p := ⟨w.heap.size + 2, 4, none⟩) (Nat.le_add_right _ _) _)
  · obtain ⟨rfl, rfl⟩ := tuIs_some (Z := ⟨xp, xe + 1, 1, 0, 4⟩) HT.out (by simp [turnT])
    go_enter Try.func59, Try.ntmps59
    go_upto_region 1 with fail
    rw [← HW0.out]
    go_wp2_with fail
    refine bodyPost_ret (v := .tuple #[.agg #[.int .i64 xp, .int .i64 (xe + 1), .int .i64 1, .int .i64 0, .int .i64 4], .int .i64 0]) (by simp [results, Try.results59, go_sem, x0, x1, x2, x3, x4, z0, z1, z2, z3, z4]) rfl ⟨rfl, ?_⟩
    exact (((((hb.setCell (p := ⟨w.heap.size + 2, 0, none⟩) (Nat.le_add_right _ _) _).setCell (p := ⟨w.heap.size + 2, 1, none⟩) (Nat.le_add_right _ _) _).setCell (p := ⟨w.heap.size + 2, 2, none⟩) (Nat.le_add_right _ _) _).setCell (p := ⟨w.heap.size + 2, 3, none⟩) (Nat.le_add_right _ _) _).setCell (p := ⟨w.heap.size + 2, 4, none⟩) (Nat.le_add_right _ _) _)
  · obtain ⟨rfl, rfl⟩ := tuIs_none HT.out (by simp at s1 s2 s3 s4; simp [turnT, s1, s2, s3, s4])
    go_enter Try.func59, Try.ntmps59
    go_upto_region 1 with fail
    rw [← HW0.out]
    go_wp2_with fail
    refine bodyPost_ret (v := .tuple #[.agg #[.int .i64 0, .int .i64 0, .int .i64 0, .int .i64 0, .int .i64 0], .int .i64 9]) (by simp [results, Try.results59, go_sem, x0, x1, x2, x3, x4, z0, z1, z2, z3, z4]) rfl ⟨rfl, ?_⟩
    exact (((((hb.setCell (p := ⟨w.heap.size + 2, 0, none⟩) (Nat.le_add_right _ _) _).setCell (p := ⟨w.heap.size + 2, 1, none⟩) (Nat.le_add_right _ _) _).setCell (p := ⟨w.heap.size + 2, 2, none⟩) (Nat.le_add_right _ _) _).setCell (p := ⟨w.heap.size + 2, 3, none⟩) (Nat.le_add_right _ _) _).setCell (p := ⟨w.heap.size + 2, 4, none⟩) (Nat.le_add_right _ _) _)
theorem rturn_walk (x : Tr) (k p m : Int) (w : World) (Y : Tr) (E : Int) (hT : TuIs x k m Y E) (hk : 1 ≤ k ∧ k ≤ 5) (he : 1 ≤ x.e ∧ x.e ≤ 1099511627776) (hm : 0 ≤ m ∧ m < 8192) (hxm : 0 ≤ x.m ∧ x.m < 8192) :
    Calls Try.prog 59 #[.agg #[.int .i64 x.p, .int .i64 x.e, .int .i64 x.s, .int .i64 x.m, .int .i64 x.l], .agg #[.int .i64 k, .int .i64 p, .int .i64 m]] w (RrPost w Y E) := by
  have hk5 : k = 1 ∨ k = 2 ∨ k = 3 ∨ k = 4 ∨ k = 5 := by omega
  rcases hk5 with rfl | rfl | rfl | rfl | rfl
  · exact rturn1 x p m w Y E hT he hm hxm
  · exact rturn2 x p m w Y E hT he hm hxm
  · exact rturn3 x p m w Y E hT he hm hxm
  · exact rturn4 x p m w Y E hT he hm hxm
  · exact rturn5 x p m w Y E hT he hm hxm
end Go.Proofs.Ytfjnmjibifefgaa
