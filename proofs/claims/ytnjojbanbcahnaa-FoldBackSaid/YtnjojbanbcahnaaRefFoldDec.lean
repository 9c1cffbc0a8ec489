/- The walk of headgateref15.Decode. -/
import Derived.Test.YtnjojbanbcahnaaFoldDec
import Derived.Test.YtnjojbanbcahnaaRefMay
import Derived.Test.YtnjojbanbcahnaaRefTakeAll
namespace Go.Proofs.Ytnjojbanbcahnaa
open Go.RowKit Vm Fo
set_option linter.unusedVariables false

theorem ref_take_all_at (s : ByteArray) (N : Int) (n : Nat) (hN : N = (n : Int)) (vs : List Int) (r : List UInt8) (w : World) (hs : s.size ≤ 140737488355328) (hn : n ≤ 64) (h : takeN n s.data.toList = some (vs, r)) :
    Calls Try.prog 53 #[.string s, .int .i64 N] w fun e w' => ∃ a c, e = .returned (.tuple #[.slice a vs.length c, .string (str r), .int .i64 0]) ∧ w'.ownsRow w.heap.size 3 1 (.slice a vs.length c) vs.length (i64s vs) ∧ Below w.heap.size w w' := by
  subst hN; exact ref_take_all_some s n vs r w hs hn h
theorem ref_take_none_at (s : ByteArray) (N : Int) (n : Nat) (hN : N = (n : Int)) (w : World) (hs : s.size ≤ 140737488355328) (hn : n ≤ 64) (h : takeN n s.data.toList = none) :
    Calls Try.prog 53 #[.string s, .int .i64 N] w fun e w' => e = .returned (.tuple #[.slice none 0 0, .string ⟨#[]⟩, .int .i64 2]) ∧ Below w.heap.size w w' := by
  subst hN; exact ref_take_all_none s n w hs hn h
/-- What is read so far. -/
def part (b : Ag) (k : Nat) : Ag := ⟨b.count, b.sum, b.min, b.max, if 0 < k then b.h0 else 0, if 1 < k then b.h1 else 0, if 2 < k then b.h2 else 0, if 3 < k then b.h3 else 0, b.re, b.im⟩

set_option maxRecDepth 100000 in
set_option maxHeartbeats 1000000 in
theorem rdec_none (s : ByteArray) (w : World) (hs : s.size ≤ 140737488355328) (h : takeN 10 s.data.toList = none) :
    Calls Try.prog 43 #[.string s] w fun e w' => e = .returned (.tuple #[av zeroA, .int .i64 2]) ∧ Below w.heap.size w w' := by
  have H := Lib.hid (fun w => ref_take_none_at s 10 10 rfl w hs (by omega) h)
  have hR := Lib.hid (Whole.new w 53 (avc zeroA))
  have hbel : Below w.heap.size w (w.alloc (.cells (avc zeroA) 53)) := (Below.refl _ _).alloc (Nat.le_refl _) _
  clear h
  go_enter Try.func43, Try.ntmps43
  go_wp2_with fail
  refine (H.out _).mono ?_
  rintro e w1 ⟨rfl, g1⟩
  have hR1 := hR.out.keep g1
  obtain ⟨c0, c1, c2, c3, c4, c5, c6, c7, c8, c9, f0, f1, f2, f3, f4, f5, f6, f7, f8, f9⟩ := hR1.ten
  have hbel1 := hbel.trans (g1.mono hbel.size)
  clear g1 hbel hR hR1
  go_wp2_with fail
  refine bodyPost_ret ?_ rfl ⟨rfl, ?_⟩
  · simp [results, Try.results43, go_sem, c0, c1, c2, c3, c4, c5, c6, c7, c8, c9, zeroA]
  · exact below_setTen hbel1 (Nat.le_refl _) zeroA

set_option maxRecDepth 100000 in
set_option maxHeartbeats 1000000 in
theorem rdec_rest (s : ByteArray) (vs : List Int) (r : List UInt8) (w : World) (hs : s.size ≤ 140737488355328) (h : takeN 10 s.data.toList = some (vs, r)) (hr : r ≠ []) :
    Calls Try.prog 43 #[.string s] w fun e w' => e = .returned (.tuple #[av zeroA, .int .i64 2]) ∧ Below w.heap.size w w' := by
  have H := Lib.hid (fun w => ref_take_all_at s 10 10 rfl vs r w hs (by omega) h)
  have hR := Lib.hid (Whole.new w 53 (avc zeroA))
  have hbel : Below w.heap.size w (w.alloc (.cells (avc zeroA) 53)) := (Below.refl _ _).alloc (Nat.le_refl _) _
  have hq : (0 : Int) < ((str r).size : Int) := by
    rw [str_size]
    cases r with
    | nil => exact absurd rfl hr
    | cons x l => simp
  clear h hr
  go_enter Try.func43, Try.ntmps43
  go_wp2_with fail
  refine (H.out _).mono ?_
  rintro e w1 ⟨a, c, rfl, _, g1⟩
  have hR1 := hR.out.keep g1
  obtain ⟨c0, c1, c2, c3, c4, c5, c6, c7, c8, c9, f0, f1, f2, f3, f4, f5, f6, f7, f8, f9⟩ := hR1.ten
  have hbel1 := hbel.trans (g1.mono hbel.size)
  clear g1 hbel hR hR1
  go_wp2_with fail
  refine bodyPost_ret ?_ rfl ⟨rfl, ?_⟩
  · simp [results, Try.results43, go_sem, c0, c1, c2, c3, c4, c5, c6, c7, c8, c9, zeroA]
  · exact below_setTen hbel1 (Nat.le_refl _) zeroA

set_option maxRecDepth 100000 in
set_option maxHeartbeats 4000000 in
theorem rdec_got (s : ByteArray) (b D : Ag) (E : Int) (w : World) (hs : s.size ≤ 140737488355328) (h : takeN 10 s.data.toList = some (numsA b, [])) (hDE : (May b ∧ D = b ∧ E = 0) ∨ (¬ May b ∧ D = zeroA ∧ E = 2)) :
    Calls Try.prog 43 #[.string s] w fun e w' => e = .returned (.tuple #[av D, .int .i64 E]) ∧ Below w.heap.size w w' := by
  have H := Lib.hid (fun w => ref_take_all_at s 10 10 rfl (numsA b) [] w hs (by omega) h)
  have hb := nums_wf (takeN_of h).1
  have hR := Lib.hid (Whole.new w 53 (avc zeroA))
  have hbel : Below w.heap.size w (w.alloc (.cells (avc zeroA) 53)) := (Below.refl _ _).alloc (Nat.le_refl _) _
  have HC := Lib.hid (fun w => may_walk b w hb)
  have hs0 : str [] = ⟨#[]⟩ := rfl
  rw [hs0] at H
  have HDE := Lib.hid hDE
  clear h hDE
  go_enter Try.func43, Try.ntmps43
  go_wp2_with fail
  refine (H.out _).mono ?_
  rintro e w1 ⟨a, c, rfl, hown, g1⟩
  have hR1 := hR.out.keep g1
  have HR1 := Lib.hid hR1
  have hbel1 := hbel.trans (g1.mono hbel.size)
  have hcell := hown
  have hl10 : (numsA b).length = 10 := rfl
  rw [hl10]
  rcases hown.2 with ⟨_, h0⟩ | ⟨g, cp, cur, he, hbg, hg, hnc, hcm, hcs, htake⟩
  · simp [numsA] at h0
  · injection he with e1 e2 e3
    subst e1 e3
    rw [hl10] at hnc
    have hk : ∀ (q : Nat) u, (i64s (numsA b))[q]? = some u → w1.cell? ⟨g, q, none⟩ = some u := fun q u hu => by
      have := hcell.cells (g := g) rfl q u hu
      rwa [add_at, Nat.zero_add] at this
    have k0 := hk 0 _ rfl
    have k1 := hk 1 _ rfl
    have k2 := hk 2 _ rfl
    have k3 := hk 3 _ rfl
    have k4 := hk 4 _ rfl
    have k5 := hk 5 _ rfl
    have k6 := hk 6 _ rfl
    have k7 := hk 7 _ rfl
    have k8 := hk 8 _ rfl
    have k9 := hk 9 _ rfl
    have hgl : g < w1.heap.size := (hcell.lt g rfl).2
    have HK0 := Lib.hid hk
    have hK := Lib.hid (show ∀ (i : Nat) (wr : World) (u : Value), (i64s (numsA b))[i]? = some u → Below w1.heap.size w1 wr → wr.cell? ⟨g, i, none⟩ = some u from fun i wr u hu h => (h.cell (p := ⟨g, i, none⟩) hgl).trans (HK0.out i u hu))
    clear hk hcell hown htake hcs hg hbg
    go_wp2_with fail
    have HS := Lib.hid (show ∀ w', Below w1.heap.size w1 w' → w'.cell? ⟨g, 0, none⟩ = some (.int .i64 b.count) ∧ w'.cell? ⟨g, 1, none⟩ = some (.int .i64 b.sum) ∧ w'.cell? ⟨g, 2, none⟩ = some (.int .i64 b.min) ∧ w'.cell? ⟨g, 3, none⟩ = some (.int .i64 b.max) ∧ w'.cell? ⟨g, 8, none⟩ = some (.int .i64 b.re) ∧ w'.cell? ⟨g, 9, none⟩ = some (.int .i64 b.im) ∧ g < w'.heap.size ∧ Below w1.heap.size w1 w' from fun w' h =>
      have e : ∀ i, w'.cell? ⟨g, i, none⟩ = w1.cell? ⟨g, i, none⟩ := fun i => h.cell (p := ⟨g, i, none⟩) hgl
      ⟨(e 0).trans k0, (e 1).trans k1, (e 2).trans k2, (e 3).trans k3, (e 8).trans k8, (e 9).trans k9, Nat.lt_of_lt_of_le hgl h.size, h⟩)
    have s0 : Below w1.heap.size w1 w1.drew := (Below.refl _ _).drew
    have s1 : ∀ o, Below w1.heap.size w1 (w1.alloc o).drew := fun o => ((Below.refl _ _).alloc (Nat.le_refl _) o).drew
    have hS0 := HS.out _ s0
    have S1 := Lib.hid (fun o => HS.out _ (s1 o))
    have SB := Lib.hid s1
    clear k0 k1 k2 k3 k4 k5 k6 k7 k8 k9 s0 s1
    go_region_held3 (fun w' => w'.cell? ⟨g, 0, none⟩ = some (.int .i64 b.count) ∧ w'.cell? ⟨g, 1, none⟩ = some (.int .i64 b.sum) ∧ w'.cell? ⟨g, 2, none⟩ = some (.int .i64 b.min) ∧ w'.cell? ⟨g, 3, none⟩ = some (.int .i64 b.max) ∧ w'.cell? ⟨g, 8, none⟩ = some (.int .i64 b.re) ∧ w'.cell? ⟨g, 9, none⟩ = some (.int .i64 b.im) ∧ g < w'.heap.size ∧ Below w1.heap.size w1 w')
      (first | with_reducible assumption | with_reducible exact S1.out _)
      (first | fail | fail)
    obtain ⟨V, hV⟩ : ∃ V, V = (w1.alloc (.cells #[.int .i64 b.count, .int .i64 b.sum, .int .i64 b.min, .int .i64 b.max, .int .i64 0, .int .i64 0, .int .i64 0, .int .i64 0, .int .i64 b.re, .int .i64 b.im] 53)).drew := ⟨_, rfl⟩
    rw [← hV]
    have T : Whole V w1.heap.size 53 (avc (part b 0)) := by rw [hV]; exact Whole.new w1 53 (avc (part b 0))
    have B2 : Below w1.heap.size w1 V := by rw [hV]; exact SB.out _
    have HT := Lib.hid T
    have HB2 := Lib.hid B2
    clear hV hS0 S1 SB HS T B2
    go_wp2_with fail
    go_loopw [8] (fun i wr => ∃ k : Nat, k ≤ 4 ∧ i = .int .i64 k ∧ Whole wr w1.heap.size 53 (avc (part b k)) ∧ Below w1.heap.size w1 wr) (fun i _ => 4 - (intOf i).toNat)
    case atStart => exact ⟨0, by omega, rfl, HT.out, HB2.out⟩
    case round =>
    obtain ⟨k, hk4, rfl, hT, hb2⟩ := hrel
    obtain rfl | rfl | rfl | rfl | rfl : k = 0 ∨ k = 1 ∨ k = 2 ∨ k = 3 ∨ k = 4 := by omega
    · have m0 := hK.out 4 _ (.int .i64 b.h0) rfl hb2
      obtain ⟨c0, c1, c2, c3, c4, c5, c6, c7, c8, c9, f0, f1, f2, f3, f4, f5, f6, f7, f8, f9⟩ := hT.ten
      have hT2 := hT.set 4 (.int .i64 b.h0)
      have hpe : (avc (part b 0)).setIfInBounds 4 (.int .i64 b.h0) = avc (part b 1) := by apply Array.ext'; simp [avc, part]
      rw [hpe] at hT2
      have hb4 := hb2.setCell (p := ⟨w1.heap.size, 4, none⟩) (Nat.le_refl _) (.int .i64 b.h0)
      have HT2 := Lib.hid hT2
      have HB4 := Lib.hid hb4
      clear hT hT2 hpe hb4
      go_wp2_with fail
      go_roundw
      case rel => exact ⟨1, by omega, by go_num, HT2.out, HB4.out⟩
      case measure => simp [intOf]
    · have m0 := hK.out 5 _ (.int .i64 b.h1) rfl hb2
      obtain ⟨c0, c1, c2, c3, c4, c5, c6, c7, c8, c9, f0, f1, f2, f3, f4, f5, f6, f7, f8, f9⟩ := hT.ten
      have hT2 := hT.set 5 (.int .i64 b.h1)
      have hpe : (avc (part b 1)).setIfInBounds 5 (.int .i64 b.h1) = avc (part b 2) := by apply Array.ext'; simp [avc, part]
      rw [hpe] at hT2
      have hb4 := hb2.setCell (p := ⟨w1.heap.size, 5, none⟩) (Nat.le_refl _) (.int .i64 b.h1)
      have HT2 := Lib.hid hT2
      have HB4 := Lib.hid hb4
      clear hT hT2 hpe hb4
      go_wp2_with fail
      go_roundw
      case rel => exact ⟨2, by omega, by go_num, HT2.out, HB4.out⟩
      case measure => simp [intOf]
    · have m0 := hK.out 6 _ (.int .i64 b.h2) rfl hb2
      obtain ⟨c0, c1, c2, c3, c4, c5, c6, c7, c8, c9, f0, f1, f2, f3, f4, f5, f6, f7, f8, f9⟩ := hT.ten
      have hT2 := hT.set 6 (.int .i64 b.h2)
      have hpe : (avc (part b 2)).setIfInBounds 6 (.int .i64 b.h2) = avc (part b 3) := by apply Array.ext'; simp [avc, part]
      rw [hpe] at hT2
      have hb4 := hb2.setCell (p := ⟨w1.heap.size, 6, none⟩) (Nat.le_refl _) (.int .i64 b.h2)
      have HT2 := Lib.hid hT2
      have HB4 := Lib.hid hb4
      clear hT hT2 hpe hb4
      go_wp2_with fail
      go_roundw
      case rel => exact ⟨3, by omega, by go_num, HT2.out, HB4.out⟩
      case measure => simp [intOf]
    · have m0 := hK.out 7 _ (.int .i64 b.h3) rfl hb2
      obtain ⟨c0, c1, c2, c3, c4, c5, c6, c7, c8, c9, f0, f1, f2, f3, f4, f5, f6, f7, f8, f9⟩ := hT.ten
      have hT2 := hT.set 7 (.int .i64 b.h3)
      have hpe : (avc (part b 3)).setIfInBounds 7 (.int .i64 b.h3) = avc (part b 4) := by apply Array.ext'; simp [avc, part]
      rw [hpe] at hT2
      have hb4 := hb2.setCell (p := ⟨w1.heap.size, 7, none⟩) (Nat.le_refl _) (.int .i64 b.h3)
      have HT2 := Lib.hid hT2
      have HB4 := Lib.hid hb4
      clear hT hT2 hpe hb4
      go_wp2_with fail
      go_roundw
      case rel => exact ⟨4, by omega, by go_num, HT2.out, HB4.out⟩
      case measure => simp [intOf]
    · have hp : part b 4 = b := rfl
      rw [hp] at hT
      obtain ⟨c0, c1, c2, c3, c4, c5, c6, c7, c8, c9, _⟩ := hT.ten
      have HT4 := Lib.hid hT
      clear hT
      go_wp2_with fail
      refine (HC.out _).mono ?_
      rintro e w3 ⟨rfl, g3⟩
      have T3 := HT4.out.keep g3
      have hb5 : Below w1.heap.size w1 w3 := hb2.trans (g3.mono hb2.size)
      have R3 := HR1.out.keep hb5
      have hb3 : Below w.heap.size w w3 := hbel1.trans (hb5.mono hbel1.size)
      clear c0 c1 c2 c3 c4 c5 c6 c7 c8 c9 g3 hb2 hb5 HT4
      obtain ⟨c0, c1, c2, c3, c4, c5, c6, c7, c8, c9, _⟩ := T3.ten
      obtain ⟨x0, x1, x2, x3, x4, x5, x6, x7, x8, x9, f0, f1, f2, f3, f4, f5, f6, f7, f8, f9⟩ := R3.ten
      rcases HDE.out with ⟨hm, hD, hE⟩ | ⟨hm, hD, hE⟩
      · rw [decide_eq_true hm]
        subst hD hE
        clear hm HDE
        go_wp2_with fail
        refine bodyPost_ret ?_ rfl ⟨rfl, ?_⟩
        · simp [results, Try.results43, go_sem, x0, x1, x2, x3, x4, x5, x6, x7, x8, x9]
        · exact below_setTen hb3 (Nat.le_refl _) D
      · rw [decide_eq_false hm]
        subst hD hE
        clear hm HDE
        go_wp2_with fail
        refine bodyPost_ret ?_ rfl ⟨rfl, ?_⟩
        · simp [results, Try.results43, go_sem, x0, x1, x2, x3, x4, x5, x6, x7, x8, x9, zeroA]
        · exact below_setTen hb3 (Nat.le_refl _) zeroA
end Go.Proofs.Ytnjojbanbcahnaa
