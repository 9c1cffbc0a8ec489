/- The walks of heavy's rarer, oftener, first, find. -/
import Derived.Test.YthghnpopcnnidaaHv
import Derived.Test.YthghnpopcnnidaaCmp
import Derived.Sort.Grow
import Derived.Deep.RegionHeld3
import Derived.Deep.RegionWith
import Derived.Deep.Cut
import Derived.BigQuiet
namespace Go.Proofs.Ythghnpopcnnidaa
open Go.RowKit Vm
open Go.Sort (grow)
set_option linter.unusedVariables false
set_option linter.unusedSimpArgs false

/-- Draws and new blocks alone. -/
def GrowOf (W w' : World) : Prop := ∃ q os, w' = grow (W.drewN q) os
theorem GrowOf.refl (W : World) : GrowOf W W := ⟨0, #[], by simp [grow, World.drewN]⟩
theorem GrowOf.alloc {W w' : World} (h : GrowOf W w') (o : Obj) : GrowOf W (w'.alloc o) := by
  obtain ⟨q, os, rfl⟩ := h
  exact ⟨q, os.push o, by simp [grow, World.alloc]⟩
theorem GrowOf.drewN {W w' : World} (h : GrowOf W w') (n : Nat) : GrowOf W (w'.drewN n) := by
  obtain ⟨q, os, rfl⟩ := h
  exact ⟨q + n, os, by simp [grow, World.drewN, Nat.add_assoc]⟩
theorem GrowOf.drew {W w' : World} (h : GrowOf W w') : GrowOf W w'.drew := h.drewN 1
theorem GrowOf.below {W w' : World} (h : GrowOf W w') : Below W.heap.size W w' := by
  obtain ⟨q, os, rfl⟩ := h
  refine ⟨rfl, rfl, rfl, by simp [grow, World.drewN], fun k hk => ?_⟩
  simp [grow, World.drewN]
  exact Array.getElem?_append_left hk
def orI (p q : Int) : Int := if p = 0 then q else p
set_option maxRecDepth 100000 in
theorem or_walk (p q : Int) (b : Nat) (w : World) (h0 : w.cell? ⟨b, 0, none⟩ = some (.int .i64 p)) (h1 : w.cell? ⟨b, 1, none⟩ = some (.int .i64 q)) :
    Calls Try.prog 35 #[.slice (some ⟨b, 0, none⟩) 2 2] w fun e w' => e = .returned (.int .i64 (orI p q)) ∧ w' = w := by
  unfold orI
  by_cases hp : p = 0
  · subst hp
    rw [if_pos rfl]
    by_cases hq : q = 0
    · subst hq
      go_enter Try.func35, Try.ntmps35
      go_wp2_with fail
      go_loopw [8] (fun I wr => ∃ k : Nat, k ≤ 2 ∧ I = .int .i64 k ∧ wr = w) (fun I _ => 2 - (intOf I).toNat)
      case atStart => exact ⟨0, by omega, rfl, rfl⟩
      case round =>
        obtain ⟨k, hk, rfl, hwr⟩ := hrel
        subst hwr
        rcases (show k = 0 ∨ k = 1 ∨ k = 2 by omega) with rfl | rfl | rfl
        · go_wp2_with fail
          go_roundw
          case rel => exact ⟨1, by omega, by go_num, trivial⟩
          case measure => simp [intOf]
        · go_wp2_with fail
          go_roundw
          case rel => exact ⟨2, by omega, by go_num, trivial⟩
          case measure => simp [intOf]
        · go_wp2_with fail
          go_ret
          exact ⟨rfl, rfl⟩
    · have g1 : (q != 0) = true := bne_iff_ne.2 hq
      go_enter Try.func35, Try.ntmps35
      go_wp2_with fail
      go_loopw [8] (fun I wr => ∃ k : Nat, k ≤ 1 ∧ I = .int .i64 k ∧ wr = w) (fun I _ => 2 - (intOf I).toNat)
      case atStart => exact ⟨0, by omega, rfl, rfl⟩
      case round =>
        obtain ⟨k, hk, rfl, hwr⟩ := hrel
        subst hwr
        rcases (show k = 0 ∨ k = 1 by omega) with rfl | rfl
        · go_wp2_with fail
          go_roundw
          case rel => exact ⟨1, by omega, by go_num, trivial⟩
          case measure => simp [intOf]
        · go_wp2_with fail
          go_ret
          exact ⟨rfl, rfl⟩
  · rw [if_neg hp]
    have g1 : (p != 0) = true := bne_iff_ne.2 hp
    go_enter Try.func35, Try.ntmps35
    go_wp2_with fail
    go_loopw [8] (fun I wr => I = .int .i64 0 ∧ wr = w) (fun I _ => 2 - (intOf I).toNat)
    case atStart => exact ⟨rfl, rfl⟩
    case round =>
      obtain ⟨rfl, hwr⟩ := hrel
      subst hwr
      go_wp2_with fail
      go_ret
      exact ⟨rfl, rfl⟩
def rarI (a b : Ta) : Int := orI (cmpI a.n b.n) (cmpI a.k b.k)
def oftI (a b : Ta) : Int := orI (cmpI b.n a.n) (cmpI a.k b.k)
theorem rarI_less (a b : Ta) : decide (rarI a b < 0) = lessR a b := by
  unfold rarI lessR orI cmpI
  by_cases h1 : a.n < b.n
  · simp [h1]
  · by_cases h2 : b.n < a.n
    · have : ¬ a.n = b.n := by omega
      simp [h1, h2, this]
    · have : a.n = b.n := by omega
      by_cases h3 : a.k < b.k
      · simp [this, h3]
      · by_cases h4 : b.k < a.k <;> simp [this, h3, h4]
def taV (x : Ta) : Value := .agg #[.int .i64 x.k, .int .i64 x.n, .int .i64 x.o]
set_option maxRecDepth 100000 in
set_option maxHeartbeats 4000000 in
theorem rar_walk (a b : Ta) (w : World) : Calls Try.prog 28 #[taV a, taV b] w fun e w' => e = .returned (.int .i64 (rarI a b)) ∧ GrowOf w w' := by
  have hX0 := Whole.new w 45 #[.int .i64 a.k, .int .i64 a.n, .int .i64 a.o]
  have hal := balloc w (.cells #[.int .i64 a.k, .int .i64 a.n, .int .i64 a.o] 45)
  have hY0 := Whole.new (w.alloc (.cells #[.int .i64 a.k, .int .i64 a.n, .int .i64 a.o] 45)) 45 #[.int .i64 b.k, .int .i64 b.n, .int .i64 b.o]
  have hal2 := balloc (w.alloc (.cells #[.int .i64 a.k, .int .i64 a.n, .int .i64 a.o] 45)) (.cells #[.int .i64 b.k, .int .i64 b.n, .int .i64 b.o] 45)
  have hX1 := hX0.keep hal2
  have hG := ((GrowOf.refl w).alloc (.cells #[.int .i64 a.k, .int .i64 a.n, .int .i64 a.o] 45)).alloc (.cells #[.int .i64 b.k, .int .i64 b.n, .int .i64 b.o] 45)
  have hz : (w.alloc (.cells #[.int .i64 a.k, .int .i64 a.n, .int .i64 a.o] 45)).heap.size = w.heap.size + 1 := by simp
  rw [hz] at hY0
  obtain ⟨ak, an, ao⟩ := a
  obtain ⟨bk, bn, bo⟩ := b
  unfold taV rarI
  simp only at *
  clear hal hal2 hX0 hz
  obtain ⟨P, hP⟩ : ∃ P, cmpI an bn = P := ⟨_, rfl⟩
  obtain ⟨Q, hQ⟩ : ∃ Q, cmpI ak bk = Q := ⟨_, rfl⟩
  have K1 := Lib.hid (fun w' => compare_walk an bn w')
  have K2 := Lib.hid (fun w' => compare_walk ak bk w')
  rw [hP] at K1 ⊢
  rw [hQ] at K2 ⊢
  go_enter Try.func28, Try.ntmps28
  go_upto_region 1 with fail
  obtain ⟨w1, hw1⟩ : ∃ w1, w1 = (w.alloc (.cells #[.int .i64 ak, .int .i64 an, .int .i64 ao] 45)).alloc (.cells #[.int .i64 bk, .int .i64 bn, .int .i64 bo] 45) := ⟨_, rfl⟩
  rw [← hw1] at hX1 hY0 hG ⊢
  clear hw1
  have x0 := hX1.cell 0
  have x1 := hX1.cell 1
  have y0 := hY0.cell 0
  have y1 := hY0.cell 1
  simp only [List.getElem?_toArray, List.getElem?_cons_zero, List.getElem?_cons_succ] at x0 x1 y0 y1
  have hGd := Lib.hid hG.drew
  have hGo := Lib.hid ((hG.drew).alloc (.cells #[.int .i64 P, .int .i64 Q] 3))
  have KO := Lib.hid (or_walk P Q w1.heap.size ((w1.alloc (.cells #[.int .i64 P, .int .i64 Q] 3)).drew) (show (w1.alloc (.cells #[.int .i64 P, .int .i64 Q] 3)).cell? _ = _ from by rw [World.cell?_alloc_at _ _ _ _ rfl]; rfl) (show (w1.alloc (.cells #[.int .i64 P, .int .i64 Q] 3)).cell? _ = _ from by rw [World.cell?_alloc_at _ _ _ _ rfl]; rfl))
  clear hP hQ hX1 hY0
  go_wp2_with fail
  have hS0 : w1.drew.cell? ⟨w.heap.size, 0, none⟩ = some (.int .i64 ak) ∧ w1.drew.cell? ⟨w.heap.size, 1, none⟩ = some (.int .i64 an) ∧ w1.drew.cell? ⟨w.heap.size + 1, 0, none⟩ = some (.int .i64 bk) ∧ w1.drew.cell? ⟨w.heap.size + 1, 1, none⟩ = some (.int .i64 bn) := ⟨x0, x1, y0, y1⟩
  have hl0 := cell_lt x0
  have hl1 := cell_lt y0
  have hS1 : ((w1.alloc (.cells #[.int .i64 P, .int .i64 Q] 3)).drew).cell? ⟨w.heap.size, 0, none⟩ = some (.int .i64 ak) ∧ ((w1.alloc (.cells #[.int .i64 P, .int .i64 Q] 3)).drew).cell? ⟨w.heap.size, 1, none⟩ = some (.int .i64 an) ∧ ((w1.alloc (.cells #[.int .i64 P, .int .i64 Q] 3)).drew).cell? ⟨w.heap.size + 1, 0, none⟩ = some (.int .i64 bk) ∧ ((w1.alloc (.cells #[.int .i64 P, .int .i64 Q] 3)).drew).cell? ⟨w.heap.size + 1, 1, none⟩ = some (.int .i64 bn) := ⟨(World.cell?_alloc_past _ _ _ hl0).trans x0, (World.cell?_alloc_past _ _ _ hl0).trans x1, (World.cell?_alloc_past _ _ _ hl1).trans y0, (World.cell?_alloc_past _ _ _ hl1).trans y1⟩
  go_region_held3 (fun w' => w'.cell? ⟨w.heap.size, 0, none⟩ = some (.int .i64 ak) ∧ w'.cell? ⟨w.heap.size, 1, none⟩ = some (.int .i64 an) ∧ w'.cell? ⟨w.heap.size + 1, 0, none⟩ = some (.int .i64 bk) ∧ w'.cell? ⟨w.heap.size + 1, 1, none⟩ = some (.int .i64 bn))
    (first | with_reducible assumption | exact hS0 | exact hS1) (first
    | (go_at_call_of 36 an; refine (K1.out _).mono ?_; rintro e w' ⟨rfl, rfl⟩)
    | (go_at_call_of 36 ak; refine (K2.out _).mono ?_; rintro e w' ⟨rfl, rfl⟩)
    | (go_at_call 35; refine KO.out.mono ?_; rintro e w' ⟨rfl, rfl⟩))
  all_goals
    go_wp2_with fail
    go_ret
    exact ⟨by first | rfl | trivial, by first | exact hGo.out | exact (hG.alloc _).drew⟩
set_option maxRecDepth 100000 in
set_option maxHeartbeats 4000000 in
theorem oft_walk (a b : Ta) (w : World) : Calls Try.prog 32 #[taV a, taV b] w fun e w' => e = .returned (.int .i64 (oftI a b)) ∧ GrowOf w w' := by
  have hX0 := Whole.new w 45 #[.int .i64 a.k, .int .i64 a.n, .int .i64 a.o]
  have hal := balloc w (.cells #[.int .i64 a.k, .int .i64 a.n, .int .i64 a.o] 45)
  have hY0 := Whole.new (w.alloc (.cells #[.int .i64 a.k, .int .i64 a.n, .int .i64 a.o] 45)) 45 #[.int .i64 b.k, .int .i64 b.n, .int .i64 b.o]
  have hal2 := balloc (w.alloc (.cells #[.int .i64 a.k, .int .i64 a.n, .int .i64 a.o] 45)) (.cells #[.int .i64 b.k, .int .i64 b.n, .int .i64 b.o] 45)
  have hX1 := hX0.keep hal2
  have hG := ((GrowOf.refl w).alloc (.cells #[.int .i64 a.k, .int .i64 a.n, .int .i64 a.o] 45)).alloc (.cells #[.int .i64 b.k, .int .i64 b.n, .int .i64 b.o] 45)
  have hz : (w.alloc (.cells #[.int .i64 a.k, .int .i64 a.n, .int .i64 a.o] 45)).heap.size = w.heap.size + 1 := by simp
  rw [hz] at hY0
  obtain ⟨ak, an, ao⟩ := a
  obtain ⟨bk, bn, bo⟩ := b
  unfold taV oftI
  simp only at *
  clear hal hal2 hX0 hz
  obtain ⟨P, hP⟩ : ∃ P, cmpI bn an = P := ⟨_, rfl⟩
  obtain ⟨Q, hQ⟩ : ∃ Q, cmpI ak bk = Q := ⟨_, rfl⟩
  have K1 := Lib.hid (fun w' => compare_walk bn an w')
  have K2 := Lib.hid (fun w' => compare_walk ak bk w')
  rw [hP] at K1 ⊢
  rw [hQ] at K2 ⊢
  go_enter Try.func32, Try.ntmps32
  go_upto_region 1 with fail
  obtain ⟨w1, hw1⟩ : ∃ w1, w1 = (w.alloc (.cells #[.int .i64 ak, .int .i64 an, .int .i64 ao] 45)).alloc (.cells #[.int .i64 bk, .int .i64 bn, .int .i64 bo] 45) := ⟨_, rfl⟩
  rw [← hw1] at hX1 hY0 hG ⊢
  clear hw1
  have x0 := hX1.cell 0
  have x1 := hX1.cell 1
  have y0 := hY0.cell 0
  have y1 := hY0.cell 1
  simp only [List.getElem?_toArray, List.getElem?_cons_zero, List.getElem?_cons_succ] at x0 x1 y0 y1
  have hGd := Lib.hid hG.drew
  have hGo := Lib.hid ((hG.drew).alloc (.cells #[.int .i64 P, .int .i64 Q] 3))
  have KO := Lib.hid (or_walk P Q w1.heap.size ((w1.alloc (.cells #[.int .i64 P, .int .i64 Q] 3)).drew) (show (w1.alloc (.cells #[.int .i64 P, .int .i64 Q] 3)).cell? _ = _ from by rw [World.cell?_alloc_at _ _ _ _ rfl]; rfl) (show (w1.alloc (.cells #[.int .i64 P, .int .i64 Q] 3)).cell? _ = _ from by rw [World.cell?_alloc_at _ _ _ _ rfl]; rfl))
  clear hP hQ hX1 hY0
  go_wp2_with fail
  have hS0 : w1.drew.cell? ⟨w.heap.size, 0, none⟩ = some (.int .i64 ak) ∧ w1.drew.cell? ⟨w.heap.size, 1, none⟩ = some (.int .i64 an) ∧ w1.drew.cell? ⟨w.heap.size + 1, 0, none⟩ = some (.int .i64 bk) ∧ w1.drew.cell? ⟨w.heap.size + 1, 1, none⟩ = some (.int .i64 bn) := ⟨x0, x1, y0, y1⟩
  have hl0 := cell_lt x0
  have hl1 := cell_lt y0
  have hS1 : ((w1.alloc (.cells #[.int .i64 P, .int .i64 Q] 3)).drew).cell? ⟨w.heap.size, 0, none⟩ = some (.int .i64 ak) ∧ ((w1.alloc (.cells #[.int .i64 P, .int .i64 Q] 3)).drew).cell? ⟨w.heap.size, 1, none⟩ = some (.int .i64 an) ∧ ((w1.alloc (.cells #[.int .i64 P, .int .i64 Q] 3)).drew).cell? ⟨w.heap.size + 1, 0, none⟩ = some (.int .i64 bk) ∧ ((w1.alloc (.cells #[.int .i64 P, .int .i64 Q] 3)).drew).cell? ⟨w.heap.size + 1, 1, none⟩ = some (.int .i64 bn) := ⟨(World.cell?_alloc_past _ _ _ hl0).trans x0, (World.cell?_alloc_past _ _ _ hl0).trans x1, (World.cell?_alloc_past _ _ _ hl1).trans y0, (World.cell?_alloc_past _ _ _ hl1).trans y1⟩
  go_region_held3 (fun w' => w'.cell? ⟨w.heap.size, 0, none⟩ = some (.int .i64 ak) ∧ w'.cell? ⟨w.heap.size, 1, none⟩ = some (.int .i64 an) ∧ w'.cell? ⟨w.heap.size + 1, 0, none⟩ = some (.int .i64 bk) ∧ w'.cell? ⟨w.heap.size + 1, 1, none⟩ = some (.int .i64 bn))
    (first | with_reducible assumption | exact hS0 | exact hS1) (first
    | (go_at_call_of 36 an; refine (K1.out _).mono ?_; rintro e w' ⟨rfl, rfl⟩)
    | (go_at_call_of 36 ak; refine (K2.out _).mono ?_; rintro e w' ⟨rfl, rfl⟩)
    | (go_at_call 35; refine KO.out.mono ?_; rintro e w' ⟨rfl, rfl⟩))
  all_goals
    go_wp2_with fail
    go_ret
    exact ⟨by first | rfl | trivial, by first | exact hGo.out | exact (hG.alloc _).drew⟩
end Go.Proofs.Ythghnpopcnnidaa
