/- The walk of fold.All; the chapter's example. -/
import Derived.Test.YtnjojbanbcahnaaAggEq
import Derived.Test.YtnjojbanbcahnaaWhole
namespace Go.Proofs.Ytnjojbanbcahnaa
open Go.RowKit Vm Fo
set_option linter.unusedVariables false

/-- The cells of what numbers came to. -/
def avc (a : Ag) : Array Value := #[.int .i64 a.count, .int .i64 a.sum, .int .i64 a.min, .int .i64 a.max, .int .i64 a.h0, .int .i64 a.h1, .int .i64 a.h2, .int .i64 a.h3, .int .i64 a.re, .int .i64 a.im]
/-- What the walk asks of such a block. -/
structure Ten (w : World) (g : Nat) (a : Ag) : Prop where
  c0 : w.cell? ⟨g, 0, none⟩ = some (.int .i64 a.count)
  c1 : w.cell? ⟨g, 1, none⟩ = some (.int .i64 a.sum)
  c2 : w.cell? ⟨g, 2, none⟩ = some (.int .i64 a.min)
  c3 : w.cell? ⟨g, 3, none⟩ = some (.int .i64 a.max)
  c4 : w.cell? ⟨g, 4, none⟩ = some (.int .i64 a.h0)
  c5 : w.cell? ⟨g, 5, none⟩ = some (.int .i64 a.h1)
  c6 : w.cell? ⟨g, 6, none⟩ = some (.int .i64 a.h2)
  c7 : w.cell? ⟨g, 7, none⟩ = some (.int .i64 a.h3)
  c8 : w.cell? ⟨g, 8, none⟩ = some (.int .i64 a.re)
  c9 : w.cell? ⟨g, 9, none⟩ = some (.int .i64 a.im)
  f0 : w.frozen? ⟨g, 0, none⟩ = false
  f1 : w.frozen? ⟨g, 1, none⟩ = false
  f2 : w.frozen? ⟨g, 2, none⟩ = false
  f3 : w.frozen? ⟨g, 3, none⟩ = false
  f4 : w.frozen? ⟨g, 4, none⟩ = false
  f5 : w.frozen? ⟨g, 5, none⟩ = false
  f6 : w.frozen? ⟨g, 6, none⟩ = false
  f7 : w.frozen? ⟨g, 7, none⟩ = false
  f8 : w.frozen? ⟨g, 8, none⟩ = false
  f9 : w.frozen? ⟨g, 9, none⟩ = false
theorem Whole.ten {w : World} {g : Nat} {t : TypeId} {a : Ag} (h : Whole w g t (avc a)) : Ten w g a :=
  ⟨h.cell 0, h.cell 1, h.cell 2, h.cell 3, h.cell 4, h.cell 5, h.cell 6, h.cell 7, h.cell 8, h.cell 9, h.frozen 0, h.frozen 1, h.frozen 2, h.frozen 3, h.frozen 4, h.frozen 5, h.frozen 6, h.frozen 7, h.frozen 8, h.frozen 9⟩
theorem Whole.setTen {w : World} {g : Nat} {t : TypeId} {a : Ag} (h : Whole w g t (avc a)) (b : Ag) :
    Whole ((((((((((w.setCell ⟨g, 0, none⟩ (.int .i64 b.count)).setCell ⟨g, 1, none⟩ (.int .i64 b.sum)).setCell ⟨g, 2, none⟩ (.int .i64 b.min)).setCell ⟨g, 3, none⟩ (.int .i64 b.max)).setCell ⟨g, 4, none⟩ (.int .i64 b.h0)).setCell ⟨g, 5, none⟩ (.int .i64 b.h1)).setCell ⟨g, 6, none⟩ (.int .i64 b.h2)).setCell ⟨g, 7, none⟩ (.int .i64 b.h3)).setCell ⟨g, 8, none⟩ (.int .i64 b.re)).setCell ⟨g, 9, none⟩ (.int .i64 b.im)) g t (avc b) := by
  have k0 := h.set 0 (.int .i64 b.count)
  have k1 := k0.set 1 (.int .i64 b.sum)
  have k2 := k1.set 2 (.int .i64 b.min)
  have k3 := k2.set 3 (.int .i64 b.max)
  have k4 := k3.set 4 (.int .i64 b.h0)
  have k5 := k4.set 5 (.int .i64 b.h1)
  have k6 := k5.set 6 (.int .i64 b.h2)
  have k7 := k6.set 7 (.int .i64 b.h3)
  have k8 := k7.set 8 (.int .i64 b.re)
  have k9 := k8.set 9 (.int .i64 b.im)
  have e : ((((((((((avc a).setIfInBounds 0 (.int .i64 b.count)).setIfInBounds 1 (.int .i64 b.sum)).setIfInBounds 2 (.int .i64 b.min)).setIfInBounds 3 (.int .i64 b.max)).setIfInBounds 4 (.int .i64 b.h0)).setIfInBounds 5 (.int .i64 b.h1)).setIfInBounds 6 (.int .i64 b.h2)).setIfInBounds 7 (.int .i64 b.h3)).setIfInBounds 8 (.int .i64 b.re)).setIfInBounds 9 (.int .i64 b.im) = avc b := by
    apply Array.ext'
    simp [avc]
  rw [e] at k9
  exact k9
theorem below_setTen {B : Nat} {v w : World} {g : Nat} (h : Below B v w) (hg : B ≤ g) (b : Ag) :
    Below B v ((((((((((w.setCell ⟨g, 0, none⟩ (.int .i64 b.count)).setCell ⟨g, 1, none⟩ (.int .i64 b.sum)).setCell ⟨g, 2, none⟩ (.int .i64 b.min)).setCell ⟨g, 3, none⟩ (.int .i64 b.max)).setCell ⟨g, 4, none⟩ (.int .i64 b.h0)).setCell ⟨g, 5, none⟩ (.int .i64 b.h1)).setCell ⟨g, 6, none⟩ (.int .i64 b.h2)).setCell ⟨g, 7, none⟩ (.int .i64 b.h3)).setCell ⟨g, 8, none⟩ (.int .i64 b.re)).setCell ⟨g, 9, none⟩ (.int .i64 b.im)) :=
  (((((((((h.setCell hg _).setCell hg _).setCell hg _).setCell hg _).setCell hg _).setCell hg _).setCell hg _).setCell hg _).setCell hg _).setCell hg _

set_option maxRecDepth 100000 in
set_option maxHeartbeats 2000000 in
theorem all_walk (a : Option Addr) (n c B : Nat) (xs : List Int) (w : World) (hn : n = xs.length) (hm : n ≤ 9223372036854775807) (hs : Sl w B a (i64s xs)) (hB : B ≤ w.heap.size) (hx : ∀ x ∈ xs, I64 x) :
    Calls Try.prog 38 #[.slice a n c] w fun e w' => e = .returned (av (allA xs)) ∧ Below w.heap.size w w' := by
  have HN := Lib.hid hn
  have HX := Lib.hid hx
  have b0 : Whole ((w.alloc (.cells (avc zeroA) 53)).alloc (.cells (avc zeroA) 53)) (w.heap.size + 1) 53 (avc zeroA) := by
    have h := Whole.new (w.alloc (.cells (avc zeroA) 53)) 53 (avc zeroA)
    rwa [World.size_alloc] at h
  have B0 := Lib.hid b0
  clear b0
  have hbel : Below w.heap.size w ((w.alloc (.cells (avc zeroA) 53)).alloc (.cells (avc zeroA) 53)) := ((Below.refl _ _).alloc (Nat.le_refl _) _).alloc (by simp) _
  have R0 := Lib.hid ((Whole.new w 53 (avc zeroA)).keep ((Below.refl _ _).alloc (Nat.le_refl _) (.cells (avc zeroA) 53)))
  clear hn hx
  go_enter Try.func38, Try.ntmps38
  go_wp2
  go_loopw [8] (fun i wr => ∃ k : Nat, k ≤ n ∧ i = .int .i64 k ∧ Whole wr (w.heap.size + 1) 53 (avc (allA (xs.take k))) ∧ Whole wr w.heap.size 53 (avc zeroA) ∧ Below w.heap.size w wr) (fun i _ => n - (intOf i).toNat)
  case atStart => exact ⟨0, by omega, rfl, by exact B0.out, by exact R0.out, hbel⟩
  case round =>
    obtain ⟨k, hk, rfl, hW, hR, hb⟩ := hrel
    by_cases hlt : k < n
    · have hkx : k < xs.length := by have := HN.out; omega
      obtain ⟨b1, o1, rfl, _, k1⟩ := (hs.below hb hB).at (j := k) (by rw [i64s_length]; exact hkx)
      rw [i64s_at _ _ hkx] at k1
      have hi := HX.out xs[k] (List.getElem_mem hkx)
      have hts : allA (xs.take (k + 1)) = addA (allA (xs.take k)) xs[k] := by rw [List.take_succ_eq_append_getElem hkx, allA_snoc]
      have HTS := Lib.hid hts
      have hwf := allA_wf (l := xs.take k) (fun m hm => HX.out m (List.mem_of_mem_take hm))
      generalize xs[k] = x at *
      generalize allA (xs.take k) = A at *
      have HW := Lib.hid hW
      obtain ⟨c0, c1, c2, c3, c4, c5, c6, c7, c8, c9, f0, f1, f2, f3, f4, f5, f6, f7, f8, f9⟩ := hW.ten
      clear hts
      go_wp2_with fail
      refine (add_walk A x _ hwf hi).mono ?_
      rintro e w1 ⟨rfl, g1⟩
      have hW1 := HW.out.keep g1
      have hR1 := hR.keep g1
      have hb1 := hb.trans (g1.mono hb.size)
      clear c0 c1 c2 c3 c4 c5 c6 c7 c8 c9 f0 f1 f2 f3 f4 f5 f6 f7 f8 f9 k1 g1 hR hb
      obtain ⟨c0, c1, c2, c3, c4, c5, c6, c7, c8, c9, f0, f1, f2, f3, f4, f5, f6, f7, f8, f9⟩ := hW1.ten
      have hW2 := hW1.setTen (addA A x)
      have hb2 := below_setTen hb1 (Nat.le_succ w.heap.size) (addA A x)
      have HW2 := Lib.hid hW2
      have HB2 := Lib.hid hb2
      generalize addA A x = D at *
      clear hW hW1 hW2 hb1 hb2 HW
      go_wp2
      go_roundw
      case rel => exact ⟨k + 1, by omega, by go_num, by rw [HTS.out]; exact HW2.out, hR1.far (w.heap.size + 1) 0 _ (by omega) |>.far (w.heap.size + 1) 1 _ (by omega) |>.far (w.heap.size + 1) 2 _ (by omega) |>.far (w.heap.size + 1) 3 _ (by omega) |>.far (w.heap.size + 1) 4 _ (by omega) |>.far (w.heap.size + 1) 5 _ (by omega) |>.far (w.heap.size + 1) 6 _ (by omega) |>.far (w.heap.size + 1) 7 _ (by omega) |>.far (w.heap.size + 1) 8 _ (by omega) |>.far (w.heap.size + 1) 9 _ (by omega), HB2.out⟩
      case measure => simp [intOf]; omega
    · have hall : xs.take k = xs := List.take_of_length_le (by have := HN.out; omega)
      rw [hall] at hW
      have HR := Lib.hid hR
      obtain ⟨c0, c1, c2, c3, c4, c5, c6, c7, c8, c9, f0, f1, f2, f3, f4, f5, f6, f7, f8, f9⟩ := hW.ten
      obtain ⟨d0, d1, d2, d3, d4, d5, d6, d7, d8, d9, g0, g1, g2, g3, g4, g5, g6, g7, g8, g9⟩ := hR.ten
      clear hW hR hall
      go_wp2
      refine bodyPost_ret ?_ rfl ⟨rfl, ?_⟩
      · simp [results, Try.results38, go_sem, d0, d1, d2, d3, d4, d5, d6, d7, d8, d9]
      · exact below_setTen hb (Nat.le_refl _) (allA xs)

/-- All of numbers that stand in a new block. -/
theorem all_new (xs : List Int) (n : Nat) (w W : World) (hn : n = xs.length) (hm : n ≤ 9223372036854775807) (hx : ∀ x ∈ xs, I64 x) (hW : W.heap = (w.alloc (.cells (i64s xs).toArray 3)).heap) :
    Calls Try.prog 38 #[.slice (some ⟨w.heap.size, 0, none⟩) n n] W fun e w' => e = .returned (av (allA xs)) ∧ Below W.heap.size W w' := by
  refine all_walk (some ⟨w.heap.size, 0, none⟩) n n W.heap.size xs W hn hm ?_ (Nat.le_refl _) hx
  refine .inr ⟨w.heap.size, 0, rfl, by rw [hW]; simp, fun j u hu => ?_⟩
  have e : ∀ a, W.cell? a = (w.alloc (.cells (i64s xs).toArray 3)).cell? a := fun a => by simp only [World.cell?, hW]
  rw [e, World.cell?_alloc_at _ _ _ _ (by omega)]
  simpa using hu

set_option maxRecDepth 100000 in
set_option maxHeartbeats 2000000 in
theorem awake15_walk (w : World) :
    Calls Try.prog 36 #[] w fun e w' => e = .returned (.bool true) ∧ Below w.heap.size w w' := by
  have hx : ∀ x ∈ ([5, -1, 12] : List Int), I64 x := by
    intro x hx
    simp at hx
    unfold I64
    rcases hx with rfl | rfl | rfl <;> omega
  have H := Lib.hid (fun w W => all_new [5, -1, 12] 3 w W rfl (by omega) hx)
  have e : allA [5, -1, 12] = ⟨3, 16, -1, 12, 1, 1, 1, 0, 1, 0⟩ := by kernel_rfl
  have hal : Below w.heap.size w (w.alloc (.cells #[.int .i64 5, .int .i64 (-1), .int .i64 12] 3)) := (Below.refl _ _).alloc (Nat.le_refl _) _
  rw [e] at H
  have hq : ∀ w, (binOp .eql 53 (.agg #[.int .i64 3, .int .i64 16, .int .i64 (-1), .int .i64 12, .int .i64 1, .int .i64 1, .int .i64 1, .int .i64 0, .int .i64 1, .int .i64 0]) (.agg #[.int .i64 3, .int .i64 16, .int .i64 (-1), .int .i64 12, .int .i64 1, .int .i64 1, .int .i64 1, .int .i64 0, .int .i64 1, .int .i64 0])).run Try.prog w = .ok (.bool true) w := fun w => agg_eq ⟨3, 16, -1, 12, 1, 1, 1, 0, 1, 0⟩ w
  clear e hx
  go_enter Try.func36, Try.ntmps36
  go_wp2_with fail
  refine (H.out _ _ (by exact rfl)).mono ?_
  rintro e w1 ⟨rfl, g1⟩
  go_wp2_with fail
  go_ret
  exact ⟨rfl, hal.trans (g1.mono hal.size)⟩
set_option maxHeartbeats 1000000 in
theorem some_walk (a : Option Addr) (n c : Nat) (w : World) (hn : (n : Int) ≤ 9223372036854775807) (hc : n ≤ c) :
    Calls Try.prog 37 #[.slice a n c] w fun e w' => e = .returned (.slice a (min n 300) c) ∧ w = w' := by
  by_cases h : (300 : Int) < (n : Int)
  · have e : min n 300 = 300 := by omega
    rw [e]
    have hc2 : (300 : Int) ≤ (c : Int) := by omega
    go_enter Try.func37, Try.ntmps37
    go_wp2
    go_ret
    exact ⟨rfl, rfl⟩
  · have e : min n 300 = n := by omega
    rw [e]
    clear e
    go_enter Try.func37, Try.ntmps37
    go_wp2
    go_ret
    exact ⟨rfl, rfl⟩
end Go.Proofs.Ytnjojbanbcahnaa
