/- The walk of the statement FoldRows of layer 15. -/
import Derived.Test.YtnjojbanbcahnaaRefFoldAll
import Derived.Test.YtnjojbanbcahnaaLFoldSums
import Derived.Deep.RegionHeld3
import Derived.IntWalk
namespace Go.Proofs.Ytnjojbanbcahnaa
open Go.RowKit Vm Fo
set_option linter.unusedVariables false

/-- Ten cells of a block, kept over a call. -/
theorem ten_held {w1 w2 w3 : World} {g : Nat} {a : Ag} (hx : w2.cell? ⟨g, 0, none⟩ = some (.int .i64 a.count) ∧ w2.cell? ⟨g, 1, none⟩ = some (.int .i64 a.sum) ∧ w2.cell? ⟨g, 2, none⟩ = some (.int .i64 a.min) ∧ w2.cell? ⟨g, 3, none⟩ = some (.int .i64 a.max) ∧ w2.cell? ⟨g, 4, none⟩ = some (.int .i64 a.h0) ∧ w2.cell? ⟨g, 5, none⟩ = some (.int .i64 a.h1) ∧ w2.cell? ⟨g, 6, none⟩ = some (.int .i64 a.h2) ∧ w2.cell? ⟨g, 7, none⟩ = some (.int .i64 a.h3) ∧ w2.cell? ⟨g, 8, none⟩ = some (.int .i64 a.re) ∧ w2.cell? ⟨g, 9, none⟩ = some (.int .i64 a.im) ∧ g < w2.heap.size ∧ Below w1.heap.size w1 w2) (h : Below w2.heap.size w2 w3) :
    w3.cell? ⟨g, 0, none⟩ = some (.int .i64 a.count) ∧ w3.cell? ⟨g, 1, none⟩ = some (.int .i64 a.sum) ∧ w3.cell? ⟨g, 2, none⟩ = some (.int .i64 a.min) ∧ w3.cell? ⟨g, 3, none⟩ = some (.int .i64 a.max) ∧ w3.cell? ⟨g, 4, none⟩ = some (.int .i64 a.h0) ∧ w3.cell? ⟨g, 5, none⟩ = some (.int .i64 a.h1) ∧ w3.cell? ⟨g, 6, none⟩ = some (.int .i64 a.h2) ∧ w3.cell? ⟨g, 7, none⟩ = some (.int .i64 a.h3) ∧ w3.cell? ⟨g, 8, none⟩ = some (.int .i64 a.re) ∧ w3.cell? ⟨g, 9, none⟩ = some (.int .i64 a.im) ∧ g < w3.heap.size ∧ Below w1.heap.size w1 w3 := by
  obtain ⟨h0, h1, h2, h3, h4, h5, h6, h7, h8, h9, hg, hb⟩ := hx
  have e : ∀ i, w3.cell? ⟨g, i, none⟩ = w2.cell? ⟨g, i, none⟩ := fun i => h.cell (p := ⟨g, i, none⟩) hg
  exact ⟨by rw [e]; exact h0, by rw [e]; exact h1, by rw [e]; exact h2, by rw [e]; exact h3, by rw [e]; exact h4, by rw [e]; exact h5, by rw [e]; exact h6, by rw [e]; exact h7, by rw [e]; exact h8, by rw [e]; exact h9, Nat.lt_of_lt_of_le hg h.size, hb.trans (h.mono hb.size)⟩
theorem held_below {w w1 w2 : World} {g : Nat} {a : Ag} (hx : w2.cell? ⟨g, 0, none⟩ = some (.int .i64 a.count) ∧ w2.cell? ⟨g, 1, none⟩ = some (.int .i64 a.sum) ∧ w2.cell? ⟨g, 2, none⟩ = some (.int .i64 a.min) ∧ w2.cell? ⟨g, 3, none⟩ = some (.int .i64 a.max) ∧ w2.cell? ⟨g, 4, none⟩ = some (.int .i64 a.h0) ∧ w2.cell? ⟨g, 5, none⟩ = some (.int .i64 a.h1) ∧ w2.cell? ⟨g, 6, none⟩ = some (.int .i64 a.h2) ∧ w2.cell? ⟨g, 7, none⟩ = some (.int .i64 a.h3) ∧ w2.cell? ⟨g, 8, none⟩ = some (.int .i64 a.re) ∧ w2.cell? ⟨g, 9, none⟩ = some (.int .i64 a.im) ∧ g < w2.heap.size ∧ Below w1.heap.size w1 w2) (h : Below w.heap.size w w1) : Below w.heap.size w w2 :=
  h.trans (hx.2.2.2.2.2.2.2.2.2.2.2.mono h.size)
theorem neq_agg (a : Ag) (w : World) : (binOp .neq 53 (av a) (av a)).run Try.prog w = .ok (.bool false) w := by
  have h := agg_eq a w
  rw [run_eql_struct] at h
  rw [run_neq_struct]
  generalize (Op.equalIn 10000 53 (av a) (av a)).run Try.prog w = r at *
  cases r with
  | ok b w' => simp [Result.andThen] at h ⊢; obtain ⟨rfl, rfl⟩ := h; simp
  | halt x w' => simp [Result.andThen] at h
theorem cut_num {t : Int} {N : Nat} (hN : N ≤ 300) : ∃ k : Nat, k ≤ N ∧ (t.tmod ((N : Int) + 1) + (N : Int) + 1).tmod ((N : Int) + 1) = (k : Int) ∧ 0 ≤ t.tmod ((N : Int) + 1) + (N : Int) + 1 ∧ t.tmod ((N : Int) + 1) + (N : Int) + 1 ≤ 700 ∧ -301 < t.tmod ((N : Int) + 1) ∧ t.tmod ((N : Int) + 1) < 301 := by
  have h1 := Int.lt_tmod_of_pos t (show (0 : Int) < (N : Int) + 1 by omega)
  have h2 := Int.tmod_lt_of_pos t (show (0 : Int) < (N : Int) + 1 by omega)
  have h3 : 0 ≤ t.tmod ((N : Int) + 1) + (N : Int) + 1 := by omega
  have h4 := Int.emod_lt_of_pos (t.tmod ((N : Int) + 1) + (N : Int) + 1) (show (0 : Int) < (N : Int) + 1 by omega)
  have h5 := Int.emod_nonneg (t.tmod ((N : Int) + 1) + (N : Int) + 1) (show ((N : Int) + 1) ≠ 0 by omega)
  refine ⟨((t.tmod ((N : Int) + 1) + (N : Int) + 1) % ((N : Int) + 1)).toNat, by omega, ?_, h3, by omega, by omega, by omega⟩
  rw [Int.tmod_eq_emod_of_nonneg h3]; omega

set_option maxRecDepth 100000 in
set_option maxHeartbeats 4000000 in
theorem foldRows_law (a : Option Addr) (len cap : Nat) (zs : List Int) (t : Int) (w : World) (hr : IsRow .i64 w a len cap zs) (hcap : cap * 8 ≤ 140737488351232) (ht0 : (Lit.int .i64 t).wf = true) :
    Calls Try.prog 10 #[.slice a len cap, .int .i64 t] w fun e w' => e = .returned (.bool true) ∧ Below w.heap.size w w' := by
  have ht := wf_i64 ht0
  obtain ⟨xs, hxl, hsl, hxi, hl1, hl2⟩ := row_some hr
  have HXL := Lib.hid hxl
  have HXI := Lib.hid hxi
  clear hr hxl hxi ht0
  go_enter Try.func10, Try.ntmps10
  go_wp2_with fail
  refine (some_walk a len cap _ hl1 hl2).mono ?_
  rintro e w1 ⟨rfl, rfl⟩
  obtain ⟨N, hN⟩ : ∃ N, N = min len 300 := ⟨_, rfl⟩
  rw [← hN] at HXL ⊢
  have hN3 : N ≤ 300 := by omega
  have hNc : N ≤ cap := by omega
  clear hN
  obtain ⟨k0, hk0, hk1, hk2, hk3, hk4, hk5⟩ := cut_num (t := t) hN3
  go_wp2_with fail
  refine (all_walk a N cap _ xs _ HXL.out.symm (by omega) hsl (Nat.le_refl _) HXI.out).mono ?_
  rintro e w1 ⟨rfl, g1⟩
  have b1 := Whole.new w1 53 (avc (allA xs))
  have hal := g1.alloc g1.size (.cells (avc (allA xs)) 53)
  have hsl1 := hsl.below hal (Nat.le_refl _)
  have B1 := Lib.hid b1
  have HAL := Lib.hid hal
  have hq1 : ∀ w, (binOp .neq 53 (.agg #[.int .i64 (allA xs).count, .int .i64 (allA xs).sum, .int .i64 (allA xs).min, .int .i64 (allA xs).max, .int .i64 (allA xs).h0, .int .i64 (allA xs).h1, .int .i64 (allA xs).h2, .int .i64 (allA xs).h3, .int .i64 (allA xs).re, .int .i64 (allA xs).im]) (.agg #[.int .i64 (allA xs).count, .int .i64 (allA xs).sum, .int .i64 (allA xs).min, .int .i64 (allA xs).max, .int .i64 (allA xs).h0, .int .i64 (allA xs).h1, .int .i64 (allA xs).h2, .int .i64 (allA xs).h3, .int .i64 (allA xs).re, .int .i64 (allA xs).im])).run Try.prog w = .ok (.bool false) w := fun w => neq_agg (allA xs) w
  have HREF := Lib.hid (fun w' (h : Below w.heap.size w w') => ref_all_walk a N cap _ xs w' HXL.out.symm (by omega) (hsl.below h (Nat.le_refl _)) h.size HXI.out)
  obtain ⟨c0, c1, c2, c3, c4, c5, c6, c7, c8, c9, f0, f1, f2, f3, f4, f5, f6, f7, f8, f9⟩ := b1.ten
  clear b1 hal g1
  go_wp2_with fail
  have hwz : w1.heap.size < (w1.alloc (.cells (avc (allA xs)) 53)).heap.size := by simp
  obtain ⟨W, hWd⟩ : ∃ W, W = w1.alloc (.cells (avc (allA xs)) 53) := ⟨_, rfl⟩
  have hWd2 : w1.alloc (.cells #[.int .i64 (allA xs).count, .int .i64 (allA xs).sum, .int .i64 (allA xs).min, .int .i64 (allA xs).max, .int .i64 (allA xs).h0, .int .i64 (allA xs).h1, .int .i64 (allA xs).h2, .int .i64 (allA xs).h3, .int .i64 (allA xs).re, .int .i64 (allA xs).im] 53) = W := hWd.symm
  rw [hWd2]
  rw [← hWd] at c0 c1 c2 c3 c4 c5 c6 c7 c8 c9 hsl1 B1 HAL hwz
  have hself : Below W.heap.size W W.drew := (Below.refl _ _).drew
  clear hWd hWd2 f0 f1 f2 f3 f4 f5 f6 f7 f8 f9
  go_region_held3 (fun w' => w'.cell? ⟨w1.heap.size, 0, none⟩ = some (.int .i64 (allA xs).count) ∧ w'.cell? ⟨w1.heap.size, 1, none⟩ = some (.int .i64 (allA xs).sum) ∧ w'.cell? ⟨w1.heap.size, 2, none⟩ = some (.int .i64 (allA xs).min) ∧ w'.cell? ⟨w1.heap.size, 3, none⟩ = some (.int .i64 (allA xs).max) ∧ w'.cell? ⟨w1.heap.size, 4, none⟩ = some (.int .i64 (allA xs).h0) ∧ w'.cell? ⟨w1.heap.size, 5, none⟩ = some (.int .i64 (allA xs).h1) ∧ w'.cell? ⟨w1.heap.size, 6, none⟩ = some (.int .i64 (allA xs).h2) ∧ w'.cell? ⟨w1.heap.size, 7, none⟩ = some (.int .i64 (allA xs).h3) ∧ w'.cell? ⟨w1.heap.size, 8, none⟩ = some (.int .i64 (allA xs).re) ∧ w'.cell? ⟨w1.heap.size, 9, none⟩ = some (.int .i64 (allA xs).im) ∧ w1.heap.size < w'.heap.size ∧ Below W.heap.size W w')
    (first | assumption | exact ⟨c0, c1, c2, c3, c4, c5, c6, c7, c8, c9, hwz, hself⟩)
    (first | (go_at_call 39; refine (HREF.out _ (held_below (by assumption) HAL.out)).mono ?_; rintro e w3 ⟨rfl, h3⟩; have y := ten_held (by assumption) h3))
  have hkN : (k0 : Int) ≤ (cap : Int) := by omega
  have hb3 := y.2.2.2.2.2.2.2.2.2.2.2
  have hR3 := B1.out.keep hb3
  have hbw3 := HAL.out.trans (hb3.mono HAL.out.size)
  clear y hb3 c0 c1 c2 c3 c4 c5 c6 c7 c8 c9 hself
  go_wp2_with fail
  refine (all_walk a k0 cap _ (xs.take k0) _ (by rw [List.length_take, HXL.out]; omega) (by omega) (by have h := (hsl.below hbw3 (Nat.le_refl _)).take k0; rw [i64s, ← List.map_take] at h; exact h) hbw3.size (fun x hx => HXI.out x (List.mem_of_mem_take hx))).mono ?_
  rintro e w4 ⟨rfl, g4⟩
  have hR4 := hR3.keep g4
  have hbw4 := hbw3.trans (g4.mono hbw3.size)
  have hR5 := hR4.keep ((Below.refl _ _).alloc (Nat.le_refl _) (.cells (avc (allA (xs.take k0))) 53))
  have hT5 := Whole.new w4 53 (avc (allA (xs.take k0)))
  have hbw5 := hbw4.alloc hbw4.size (.cells (avc (allA (xs.take k0))) 53)
  have hlt4 := hR4.lt
  have hwz4 := hbw4.size
  have HR5 := Lib.hid hR5
  have HT5 := Lib.hid hT5
  have HB5 := Lib.hid hbw5
  clear hR3 hbw3 g4 hR4 hbw4 hR5 hT5 hbw5
  go_wp2_with fail
  go_loopw [8] (fun i wr => ∃ k : Nat, k0 ≤ k ∧ k ≤ N ∧ i = .int .i64 k ∧ Whole wr w4.heap.size 53 (avc (allA (xs.take k))) ∧ Whole wr w1.heap.size 53 (avc (allA xs)) ∧ Below w.heap.size w wr) (fun i _ => N - (intOf i).toNat)
  case atStart => exact ⟨k0, by omega, by omega, rfl, by exact HT5.out, by exact HR5.out, by exact HB5.out⟩
  case round =>
    obtain ⟨k, hk0', hk, rfl, hW, hR, hb⟩ := hrel
    by_cases hlt : k < N
    · have hkx : k < xs.length := by rw [HXL.out]; exact hlt
      obtain ⟨b1, o1, rfl, hb1l, k1⟩ := (hsl.below hb (Nat.le_refl _)).at (j := k) (by rw [i64s_length]; exact hkx)
      rw [i64s_at _ _ hkx] at k1
      have hi := HXI.out xs[k] (List.getElem_mem hkx)
      have hts : allA (xs.take (k + 1)) = addA (allA (xs.take k)) xs[k] := by rw [List.take_succ_eq_append_getElem hkx, allA_snoc]
      have HTS := Lib.hid hts
      have hwf := allA_wf (l := xs.take k) (fun m hm => HXI.out m (List.mem_of_mem_take hm))
      generalize xs[k] = x at *
      generalize allA (xs.take k) = A at *
      have hkn : (k : Int) < (N : Int) := by omega
      have HW := Lib.hid hW
      obtain ⟨c0, c1, c2, c3, c4, c5, c6, c7, c8, c9, f0, f1, f2, f3, f4, f5, f6, f7, f8, f9⟩ := hW.ten
      have H := Lib.hid (fun w => add_walk A x w hwf hi)
      clear hts hwf
      go_wp2_with fail
      have hkey : ∀ w5, Below wr.heap.size wr w5 → Ten w5 w4.heap.size A ∧ Whole w5 w4.heap.size 53 (avc A) ∧ Whole w5 w1.heap.size 53 (avc (allA xs)) ∧ Below w.heap.size w w5 := fun w5 g => ⟨(HW.out.keep g).ten, HW.out.keep g, hR.keep g, hb.trans (g.mono hb.size)⟩
      have HK := Lib.hid hkey
      clear hkey hR hb hW
      go_region_with (go_at_call 32; refine (H.out _).mono ?_; rintro e w5 ⟨rfl, g5⟩; have hW1 := HK.out _ (undrew g5); obtain ⟨⟨d0, d1, d2, d3, d4, d5, d6, d7, d8, d9, e0, e1, e2, e3, e4, e5, e6, e7, e8, e9⟩, y1, y2, y3⟩ := hW1)
      all_goals
        have hW2 := y1.setTen (addA A x)
        have hb2 := below_setTen y3 hwz4 (addA A x)
        have hR2 := y2.far w4.heap.size 0 (.int .i64 (addA A x).count) (by omega) |>.far w4.heap.size 1 (.int .i64 (addA A x).sum) (by omega) |>.far w4.heap.size 2 (.int .i64 (addA A x).min) (by omega) |>.far w4.heap.size 3 (.int .i64 (addA A x).max) (by omega) |>.far w4.heap.size 4 (.int .i64 (addA A x).h0) (by omega) |>.far w4.heap.size 5 (.int .i64 (addA A x).h1) (by omega) |>.far w4.heap.size 6 (.int .i64 (addA A x).h2) (by omega) |>.far w4.heap.size 7 (.int .i64 (addA A x).h3) (by omega) |>.far w4.heap.size 8 (.int .i64 (addA A x).re) (by omega) |>.far w4.heap.size 9 (.int .i64 (addA A x).im) (by omega)
        have HW2 := Lib.hid hW2
        have HB2 := Lib.hid hb2
        have HR2 := Lib.hid hR2
        clear hW2 hb2 hR2 y1 y2 y3
        go_wp2_with fail
        go_roundw
        case rel => exact ⟨k + 1, by omega, by omega, by go_num, by rw [HTS.out]; exact HW2.out, HR2.out, HB2.out⟩
        case measure => simp [intOf]; omega
    · have hall : xs.take k = xs := List.take_of_length_le (by rw [HXL.out]; omega)
      rw [hall] at hW
      obtain ⟨c0, c1, c2, c3, c4, c5, c6, c7, c8, c9, f0, f1, f2, f3, f4, f5, f6, f7, f8, f9⟩ := hW.ten
      obtain ⟨d0, d1, d2, d3, d4, d5, d6, d7, d8, d9, e0, e1, e2, e3, e4, e5, e6, e7, e8, e9⟩ := hR.ten
      have hq2 : ∀ w, (binOp .eql 53 (.agg #[.int .i64 (allA xs).count, .int .i64 (allA xs).sum, .int .i64 (allA xs).min, .int .i64 (allA xs).max, .int .i64 (allA xs).h0, .int .i64 (allA xs).h1, .int .i64 (allA xs).h2, .int .i64 (allA xs).h3, .int .i64 (allA xs).re, .int .i64 (allA xs).im]) (.agg #[.int .i64 (allA xs).count, .int .i64 (allA xs).sum, .int .i64 (allA xs).min, .int .i64 (allA xs).max, .int .i64 (allA xs).h0, .int .i64 (allA xs).h1, .int .i64 (allA xs).h2, .int .i64 (allA xs).h3, .int .i64 (allA xs).re, .int .i64 (allA xs).im])).run Try.prog w = .ok (.bool true) w := fun w => agg_eq (allA xs) w
      clear hW hR hall f0 f1 f2 f3 f4 f5 f6 f7 f8 f9 e0 e1 e2 e3 e4 e5 e6 e7 e8 e9
      go_wp2_with fail
      refine (awake15_walk _).mono ?_
      rintro e w6 ⟨rfl, g6⟩
      go_wp2_with fail
      go_ret
      exact ⟨rfl, gtrans hb g6⟩
end Go.Proofs.Ytnjojbanbcahnaa
