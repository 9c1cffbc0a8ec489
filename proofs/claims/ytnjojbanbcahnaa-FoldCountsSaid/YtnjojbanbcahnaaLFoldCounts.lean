/- The walk of the statement FoldCounts of layer 15. -/
import Derived.Test.YtnjojbanbcahnaaLFoldSums
namespace Go.Proofs.Ytnjojbanbcahnaa
open Go.RowKit Vm Fo
set_option linter.unusedVariables false

namespace FoldCounts
def tn (l : List Int) (j : Nat) : Int := cnt (fun v => v % 4 == (j : Int)) l
def sn (l : List Int) (j : Nat) : Int := cnt (fun v => srt v == j) l
def four (f : Nat → Int) : Array Value := #[.int .i64 (f 0), .int .i64 (f 1), .int .i64 (f 2), .int .i64 (f 3)]
theorem four_at (f : Nat → Int) (r : Nat) (h : r < 4) : (four f)[r]? = some (.int .i64 (f r)) := by
  match r, h with
  | 0, _ => rfl
  | 1, _ => rfl
  | 2, _ => rfl
  | 3, _ => rfl
theorem four_set (f g : Nat → Int) (r : Nat) (h : r < 4) (hg : ∀ j, j < 4 → g j = f j + (if r = j then 1 else 0)) : (four f).setIfInBounds r (.int .i64 (f r + 1)) = four g := by
  have g0 := hg 0 (by omega)
  have g1 := hg 1 (by omega)
  have g2 := hg 2 (by omega)
  have g3 := hg 3 (by omega)
  unfold four
  rw [g0, g1, g2, g3]
  apply Array.ext'
  match r, h with
  | 0, _ => simp
  | 1, _ => simp
  | 2, _ => simp
  | 3, _ => simp
theorem tn_snoc (l : List Int) (v : Int) (r j : Nat) (h : v % 4 = (r : Int)) : tn (l ++ [v]) j = tn l j + (if r = j then 1 else 0) := by
  unfold tn
  rw [cnt_snoc, h]
  congr 1
  by_cases e : r = j
  · simp [e]
  · have : ¬ (r : Int) = (j : Int) := by omega
    simp [e, this]
theorem sn_snoc (l : List Int) (v : Int) (r j : Nat) (h : srt v = r) : sn (l ++ [v]) j = sn l j + (if r = j then 1 else 0) := by
  unfold sn
  rw [cnt_snoc, h]
  congr 1
  by_cases e : r = j <;> simp [e]
theorem mem_dec (l : List Int) (x v : Int) : decide (x ∈ l ++ [v]) = (decide (x ∈ l) || (v == x)) := by
  rw [Bool.eq_iff_iff, Bool.or_eq_true, decide_eq_true_iff, decide_eq_true_iff, beq_iff_eq, List.mem_append, List.mem_singleton]
  exact ⟨fun h => h.imp id Eq.symm, fun h => h.imp id Eq.symm⟩
theorem tn_le (l : List Int) (j : Nat) : 0 ≤ tn l j ∧ tn l j ≤ (l.length : Int) := cnt_le _ _
theorem sn_le (l : List Int) (j : Nat) : 0 ≤ sn l j ∧ sn l j ≤ (l.length : Int) := cnt_le _ _
theorem agOf {l : List Int} (h : l.length ≤ 1000000) : allA l = ⟨(l.length : Int), (allA l).sum, (allA l).min, (allA l).max, sn l 0, sn l 1, sn l 2, sn l 3, tn l 0 - tn l 2, tn l 1 - tn l 3⟩ := by
  have i := inv_all h
  have e1 := i.count
  have e2 := i.h0
  have e3 := i.h1
  have e4 := i.h2
  have e5 := i.h3
  have e6 := i.re
  have e7 := i.im
  cases ha : allA l
  simp only [ha] at e1 e2 e3 e4 e5 e6 e7
  simp only [Ag.mk.injEq, true_and]
  exact ⟨e1, e2, e3, e4, e5, e6, e7⟩
end FoldCounts
open FoldCounts

set_option maxRecDepth 100000 in
set_option maxHeartbeats 4000000 in
theorem foldCounts_law (a : Option Addr) (len cap : Nat) (zs : List Int) (w : World) (hr : IsRow .i64 w a len cap zs) (hcap : cap * 8 ≤ 140737488351232) :
    Calls Try.prog 13 #[.slice a len cap] w fun e w' => e = .returned (.bool true) ∧ Below w.heap.size w w' := by
  obtain ⟨xs, hxl, hsl, hxi, hl1, hl2⟩ := row_some hr
  have HXL := Lib.hid hxl
  have HXI := Lib.hid hxi
  clear hr hxl hxi
  go_enter Try.func13, Try.ntmps13
  go_wp2_with fail
  refine (some_walk a len cap _ hl1 hl2).mono ?_
  rintro e w1 ⟨rfl, rfl⟩
  obtain ⟨N, hN⟩ : ∃ N, N = min len 300 := ⟨_, rfl⟩
  rw [← hN] at HXL ⊢
  have hN3 : N ≤ 300 := by omega
  clear hN
  go_wp2_with fail
  refine (all_walk a N cap _ xs _ HXL.out.symm (by omega) hsl (Nat.le_refl _) HXI.out).mono ?_
  rw [agOf (l := xs) (by rw [HXL.out]; omega), HXL.out]
  have inv := inv_all (l := xs) (by rw [HXL.out]; omega)
  have hmm : xs ≠ [] → (allA xs).min ∈ xs ∧ (∀ x ∈ xs, (allA xs).min ≤ x) ∧ (allA xs).max ∈ xs ∧ ∀ x ∈ xs, x ≤ (allA xs).max := fun h => ⟨(inv.min h).1, (inv.min h).2, (inv.max h).1, (inv.max h).2⟩
  have hnn : xs = [] → (allA xs).sum = 0 ∧ (allA xs).min = 0 ∧ (allA xs).max = 0 := by rintro rfl; exact ⟨rfl, rfl, rfl⟩
  have HMM := Lib.hid hmm
  have HNN := Lib.hid hnn
  clear hmm hnn inv
  generalize (allA xs).sum = sm at *
  generalize (allA xs).min = mn at *
  generalize (allA xs).max = mx at *
  rintro e w2 ⟨rfl, g2⟩
  have hal : Below w2.heap.size w2 (((w2.alloc (.cells (avc ⟨(N : Int), sm, mn, mx, sn xs 0, sn xs 1, sn xs 2, sn xs 3, tn xs 0 - tn xs 2, tn xs 1 - tn xs 3⟩) 53)).alloc (.cells #[.int .i64 0, .int .i64 0, .int .i64 0, .int .i64 0] 51)).alloc (.cells #[.int .i64 0, .int .i64 0, .int .i64 0, .int .i64 0] 51)) := (((Below.refl _ _).alloc (Nat.le_refl _) _).alloc (by simp) _).alloc (by simp; omega) _
  have b1 : Whole (((w2.alloc (.cells (avc ⟨(N : Int), sm, mn, mx, sn xs 0, sn xs 1, sn xs 2, sn xs 3, tn xs 0 - tn xs 2, tn xs 1 - tn xs 3⟩) 53)).alloc (.cells #[.int .i64 0, .int .i64 0, .int .i64 0, .int .i64 0] 51)).alloc (.cells #[.int .i64 0, .int .i64 0, .int .i64 0, .int .i64 0] 51)) w2.heap.size 53 (avc ⟨(N : Int), sm, mn, mx, sn xs 0, sn xs 1, sn xs 2, sn xs 3, tn xs 0 - tn xs 2, tn xs 1 - tn xs 3⟩) :=
    ((Whole.new w2 53 (avc ⟨(N : Int), sm, mn, mx, sn xs 0, sn xs 1, sn xs 2, sn xs 3, tn xs 0 - tn xs 2, tn xs 1 - tn xs 3⟩)).keep ((Below.refl _ _).alloc (Nat.le_refl _) _)).keep ((Below.refl _ _).alloc (Nat.le_refl _) _)
  have b2 : Whole (((w2.alloc (.cells (avc ⟨(N : Int), sm, mn, mx, sn xs 0, sn xs 1, sn xs 2, sn xs 3, tn xs 0 - tn xs 2, tn xs 1 - tn xs 3⟩) 53)).alloc (.cells #[.int .i64 0, .int .i64 0, .int .i64 0, .int .i64 0] 51)).alloc (.cells #[.int .i64 0, .int .i64 0, .int .i64 0, .int .i64 0] 51)) (w2.heap.size + 1) 51 (four (tn [])) := by
    have h := (Whole.new (w2.alloc (.cells (avc ⟨(N : Int), sm, mn, mx, sn xs 0, sn xs 1, sn xs 2, sn xs 3, tn xs 0 - tn xs 2, tn xs 1 - tn xs 3⟩) 53)) 51 (four (tn []))).keep ((Below.refl _ _).alloc (Nat.le_refl _) (.cells #[.int .i64 0, .int .i64 0, .int .i64 0, .int .i64 0] 51))
    rw [World.size_alloc] at h
    exact h
  have b3 : Whole (((w2.alloc (.cells (avc ⟨(N : Int), sm, mn, mx, sn xs 0, sn xs 1, sn xs 2, sn xs 3, tn xs 0 - tn xs 2, tn xs 1 - tn xs 3⟩) 53)).alloc (.cells #[.int .i64 0, .int .i64 0, .int .i64 0, .int .i64 0] 51)).alloc (.cells #[.int .i64 0, .int .i64 0, .int .i64 0, .int .i64 0] 51)) (w2.heap.size + 2) 51 (four (sn [])) := by
    have h := Whole.new ((w2.alloc (.cells (avc ⟨(N : Int), sm, mn, mx, sn xs 0, sn xs 1, sn xs 2, sn xs 3, tn xs 0 - tn xs 2, tn xs 1 - tn xs 3⟩) 53)).alloc (.cells #[.int .i64 0, .int .i64 0, .int .i64 0, .int .i64 0] 51)) 51 (four (sn []))
    rw [World.size_alloc, World.size_alloc] at h
    exact h
  have B1 := Lib.hid b1
  have B2 := Lib.hid b2
  have B3 := Lib.hid b3
  have HAL := Lib.hid hal
  clear b1 b2 b3 hal
  go_wp2_with fail
  go_loopw [6, 7, 8] (fun l m i wr => ∃ k : Nat, k ≤ N ∧ i = .int .i64 k ∧ l = .bool (decide (mn ∈ xs.take k)) ∧ m = .bool (decide (mx ∈ xs.take k)) ∧ Whole wr w2.heap.size 53 (avc ⟨(N : Int), sm, mn, mx, sn xs 0, sn xs 1, sn xs 2, sn xs 3, tn xs 0 - tn xs 2, tn xs 1 - tn xs 3⟩) ∧ Whole wr (w2.heap.size + 1) 51 (four (tn (xs.take k))) ∧ Whole wr (w2.heap.size + 2) 51 (four (sn (xs.take k))) ∧ Below w2.heap.size w2 wr) (fun _ _ i _ => N - (intOf i).toNat)
  case atStart => exact ⟨0, by omega, rfl, by simp, by simp, B1.out, by exact B2.out, by exact B3.out, HAL.out⟩
  case round =>
    obtain ⟨k, hk, rfl, rfl, rfl, hA, hT, hS, hb⟩ := hrel
    by_cases hlt : k < N
    · have hkx : k < xs.length := by rw [HXL.out]; exact hlt
      obtain ⟨b1, o1, rfl, _, k1⟩ := (hsl.below (g2.trans (hb.mono g2.size)) (Nat.le_refl _)).at (j := k) (by rw [i64s_length]; exact hkx)
      rw [i64s_at _ _ hkx] at k1
      have hi := HXI.out xs[k] (List.getElem_mem hkx)
      have hts : xs.take (k + 1) = xs.take k ++ [xs[k]] := List.take_succ_eq_append_getElem hkx
      obtain ⟨m1, m2, m3, m4⟩ := HMM.out (by intro h; rw [h] at hkx; simp at hkx)
      have hge := m2 _ (List.getElem_mem hkx)
      have hle := m4 _ (List.getElem_mem hkx)
      have HMI := Lib.hid m1
      have HMX := Lib.hid m3
      clear m1 m2 m3 m4
      generalize xs[k] = x at *
      have h3 := and3 x hi
      obtain ⟨r, hr, hr4⟩ : ∃ r : Nat, x % 4 = (r : Int) ∧ r < 4 := ⟨(x % 4).toNat, by omega, by omega⟩
      rw [hr] at h3
      have HR := Lib.hid hr
      have ct : wr.cell? ⟨w2.heap.size + 1, r, none⟩ = some (.int .i64 (tn (xs.take k) r)) := (hT.cell r).trans (four_at _ r hr4)
      have ft := hT.frozen r
      have tb := tn_le (xs.take k) r
      have htl : ((xs.take k).length : Int) ≤ 300 := by rw [List.length_take]; omega
      have cmn : wr.cell? ⟨w2.heap.size, 2, none⟩ = some (.int .i64 mn) := hA.cell 2
      have cmx : wr.cell? ⟨w2.heap.size, 3, none⟩ = some (.int .i64 mx) := hA.cell 3
      have hr4' : (r : Int) < 4 := by omega
      clear hr
      have hkk : (x < 0 ∧ srt x = 0) ∨ (¬ x < 0 ∧ x < 10 ∧ srt x = 1) ∨ (¬ x < 0 ∧ ¬ x < 10 ∧ x < 100 ∧ srt x = 2) ∨ (¬ x < 0 ∧ ¬ x < 10 ∧ ¬ x < 100 ∧ srt x = 3) := by
        unfold srt
        by_cases g1 : x < 0
        · left; exact ⟨g1, by rw [if_pos g1]⟩
        · by_cases g2 : x < 10
          · right; left; exact ⟨g1, g2, by rw [if_neg g1, if_pos g2]⟩
          · by_cases g3 : x < 100
            · right; right; left; exact ⟨g1, g2, g3, by rw [if_neg g1, if_neg g2, if_pos g3]⟩
            · right; right; right; exact ⟨g1, g2, g3, by rw [if_neg g1, if_neg g2, if_neg g3]⟩
      rcases hkk with ⟨s1, hk⟩ | ⟨s1, s2, hk⟩ | ⟨s1, s2, s3, hk⟩ | ⟨s1, s2, s3, hk⟩
      · have hm1 := mem_dec (xs.take k) mn x
        have hm2 := mem_dec (xs.take k) mx x
        rw [← hts] at hm1 hm2
        have HM1 := Lib.hid hm1
        have HM2 := Lib.hid hm2
        have HTS := Lib.hid hts
        clear hm1 hm2 hts
        have hT2 := (hT.set r (.int .i64 (tn (xs.take k) r + 1))).far (w2.heap.size + 2) 0 (.int .i64 (sn (xs.take k) 0 + 1)) (by omega)
        have hS2 := (hS.far (w2.heap.size + 1) r (.int .i64 (tn (xs.take k) r + 1)) (by omega)).set 0 (.int .i64 (sn (xs.take k) 0 + 1))
        have hA2 := (hA.far (w2.heap.size + 1) r (.int .i64 (tn (xs.take k) r + 1)) (by omega)).far (w2.heap.size + 2) 0 (.int .i64 (sn (xs.take k) 0 + 1)) (by omega)
        rw [four_set _ (tn (xs.take (k + 1))) r hr4 (fun j _ => by rw [HTS.out]; exact tn_snoc _ _ _ _ HR.out)] at hT2
        rw [four_set _ (sn (xs.take (k + 1))) 0 (by omega) (fun j _ => by rw [HTS.out]; exact sn_snoc _ _ _ _ hk)] at hS2
        have hb2 := (hb.setCell (p := ⟨w2.heap.size + 1, r, none⟩) (Nat.le_succ _) (.int .i64 (tn (xs.take k) r + 1))).setCell (p := ⟨w2.heap.size + 2, 0, none⟩) (by show _ ≤ w2.heap.size + 2; omega) (.int .i64 (sn (xs.take k) 0 + 1))
        have cs : wr.cell? ⟨w2.heap.size + 2, 0, none⟩ = some (.int .i64 (sn (xs.take k) 0)) := (hS.cell 0).trans (four_at _ 0 (by omega))
        have fs := hS.frozen 0
        have sb := sn_le (xs.take k) 0
        have HK := Lib.hid hk
        have HT := Lib.hid hT2
        have HS := Lib.hid hS2
        have HA := Lib.hid hA2
        have HB := Lib.hid hb2
        clear hT hS hA hk hT2 hS2 hA2 hb2
        by_cases hL : mn ∈ xs.take k
        · have hL2 : decide (mn ∈ xs.take k) = true := by simpa using hL
          rw [hL2] at HM1 ⊢
          by_cases hM : mx ∈ xs.take k
          · have hM2 : decide (mx ∈ xs.take k) = true := by simpa using hM
            rw [hM2] at HM2 ⊢
            clear hL hM hL2 hM2
            go_wp2
            all_goals
              go_roundw
              case rel => exact ⟨k + 1, by omega, by go_num, by rw [HM1.out]; rfl, by rw [HM2.out]; rfl, HA.out, HT.out, HS.out, HB.out⟩
              case measure => simp [intOf]; omega
          · have hM2 : decide (mx ∈ xs.take k) = false := by simpa using hM
            rw [hM2] at HM2 ⊢
            clear hL hM hL2 hM2
            go_wp2
            all_goals
              go_roundw
              case rel => exact ⟨k + 1, by omega, by go_num, by rw [HM1.out]; rfl, by rw [HM2.out]; rfl, HA.out, HT.out, HS.out, HB.out⟩
              case measure => simp [intOf]; omega
        · have hL2 : decide (mn ∈ xs.take k) = false := by simpa using hL
          rw [hL2] at HM1 ⊢
          by_cases hM : mx ∈ xs.take k
          · have hM2 : decide (mx ∈ xs.take k) = true := by simpa using hM
            rw [hM2] at HM2 ⊢
            clear hL hM hL2 hM2
            go_wp2
            all_goals
              go_roundw
              case rel => exact ⟨k + 1, by omega, by go_num, by rw [HM1.out]; rfl, by rw [HM2.out]; rfl, HA.out, HT.out, HS.out, HB.out⟩
              case measure => simp [intOf]; omega
          · have hM2 : decide (mx ∈ xs.take k) = false := by simpa using hM
            rw [hM2] at HM2 ⊢
            clear hL hM hL2 hM2
            go_wp2
            all_goals
              go_roundw
              case rel => exact ⟨k + 1, by omega, by go_num, by rw [HM1.out]; rfl, by rw [HM2.out]; rfl, HA.out, HT.out, HS.out, HB.out⟩
              case measure => simp [intOf]; omega
      · have hm1 := mem_dec (xs.take k) mn x
        have hm2 := mem_dec (xs.take k) mx x
        rw [← hts] at hm1 hm2
        have HM1 := Lib.hid hm1
        have HM2 := Lib.hid hm2
        have HTS := Lib.hid hts
        clear hm1 hm2 hts
        have hT2 := (hT.set r (.int .i64 (tn (xs.take k) r + 1))).far (w2.heap.size + 2) 1 (.int .i64 (sn (xs.take k) 1 + 1)) (by omega)
        have hS2 := (hS.far (w2.heap.size + 1) r (.int .i64 (tn (xs.take k) r + 1)) (by omega)).set 1 (.int .i64 (sn (xs.take k) 1 + 1))
        have hA2 := (hA.far (w2.heap.size + 1) r (.int .i64 (tn (xs.take k) r + 1)) (by omega)).far (w2.heap.size + 2) 1 (.int .i64 (sn (xs.take k) 1 + 1)) (by omega)
        rw [four_set _ (tn (xs.take (k + 1))) r hr4 (fun j _ => by rw [HTS.out]; exact tn_snoc _ _ _ _ HR.out)] at hT2
        rw [four_set _ (sn (xs.take (k + 1))) 1 (by omega) (fun j _ => by rw [HTS.out]; exact sn_snoc _ _ _ _ hk)] at hS2
        have hb2 := (hb.setCell (p := ⟨w2.heap.size + 1, r, none⟩) (Nat.le_succ _) (.int .i64 (tn (xs.take k) r + 1))).setCell (p := ⟨w2.heap.size + 2, 1, none⟩) (by show _ ≤ w2.heap.size + 2; omega) (.int .i64 (sn (xs.take k) 1 + 1))
        have cs : wr.cell? ⟨w2.heap.size + 2, 1, none⟩ = some (.int .i64 (sn (xs.take k) 1)) := (hS.cell 1).trans (four_at _ 1 (by omega))
        have fs := hS.frozen 1
        have sb := sn_le (xs.take k) 1
        have HK := Lib.hid hk
        have HT := Lib.hid hT2
        have HS := Lib.hid hS2
        have HA := Lib.hid hA2
        have HB := Lib.hid hb2
        clear hT hS hA hk hT2 hS2 hA2 hb2
        by_cases hL : mn ∈ xs.take k
        · have hL2 : decide (mn ∈ xs.take k) = true := by simpa using hL
          rw [hL2] at HM1 ⊢
          by_cases hM : mx ∈ xs.take k
          · have hM2 : decide (mx ∈ xs.take k) = true := by simpa using hM
            rw [hM2] at HM2 ⊢
            clear hL hM hL2 hM2
            go_wp2
            all_goals
              go_roundw
              case rel => exact ⟨k + 1, by omega, by go_num, by rw [HM1.out]; rfl, by rw [HM2.out]; rfl, HA.out, HT.out, HS.out, HB.out⟩
              case measure => simp [intOf]; omega
          · have hM2 : decide (mx ∈ xs.take k) = false := by simpa using hM
            rw [hM2] at HM2 ⊢
            clear hL hM hL2 hM2
            go_wp2
            all_goals
              go_roundw
              case rel => exact ⟨k + 1, by omega, by go_num, by rw [HM1.out]; rfl, by rw [HM2.out]; rfl, HA.out, HT.out, HS.out, HB.out⟩
              case measure => simp [intOf]; omega
        · have hL2 : decide (mn ∈ xs.take k) = false := by simpa using hL
          rw [hL2] at HM1 ⊢
          by_cases hM : mx ∈ xs.take k
          · have hM2 : decide (mx ∈ xs.take k) = true := by simpa using hM
            rw [hM2] at HM2 ⊢
            clear hL hM hL2 hM2
            go_wp2
            all_goals
              go_roundw
              case rel => exact ⟨k + 1, by omega, by go_num, by rw [HM1.out]; rfl, by rw [HM2.out]; rfl, HA.out, HT.out, HS.out, HB.out⟩
              case measure => simp [intOf]; omega
          · have hM2 : decide (mx ∈ xs.take k) = false := by simpa using hM
            rw [hM2] at HM2 ⊢
            clear hL hM hL2 hM2
            go_wp2
            all_goals
              go_roundw
              case rel => exact ⟨k + 1, by omega, by go_num, by rw [HM1.out]; rfl, by rw [HM2.out]; rfl, HA.out, HT.out, HS.out, HB.out⟩
              case measure => simp [intOf]; omega
      · have hm1 := mem_dec (xs.take k) mn x
        have hm2 := mem_dec (xs.take k) mx x
        rw [← hts] at hm1 hm2
        have HM1 := Lib.hid hm1
        have HM2 := Lib.hid hm2
        have HTS := Lib.hid hts
        clear hm1 hm2 hts
        have hT2 := (hT.set r (.int .i64 (tn (xs.take k) r + 1))).far (w2.heap.size + 2) 2 (.int .i64 (sn (xs.take k) 2 + 1)) (by omega)
        have hS2 := (hS.far (w2.heap.size + 1) r (.int .i64 (tn (xs.take k) r + 1)) (by omega)).set 2 (.int .i64 (sn (xs.take k) 2 + 1))
        have hA2 := (hA.far (w2.heap.size + 1) r (.int .i64 (tn (xs.take k) r + 1)) (by omega)).far (w2.heap.size + 2) 2 (.int .i64 (sn (xs.take k) 2 + 1)) (by omega)
        rw [four_set _ (tn (xs.take (k + 1))) r hr4 (fun j _ => by rw [HTS.out]; exact tn_snoc _ _ _ _ HR.out)] at hT2
        rw [four_set _ (sn (xs.take (k + 1))) 2 (by omega) (fun j _ => by rw [HTS.out]; exact sn_snoc _ _ _ _ hk)] at hS2
        have hb2 := (hb.setCell (p := ⟨w2.heap.size + 1, r, none⟩) (Nat.le_succ _) (.int .i64 (tn (xs.take k) r + 1))).setCell (p := ⟨w2.heap.size + 2, 2, none⟩) (by show _ ≤ w2.heap.size + 2; omega) (.int .i64 (sn (xs.take k) 2 + 1))
        have cs : wr.cell? ⟨w2.heap.size + 2, 2, none⟩ = some (.int .i64 (sn (xs.take k) 2)) := (hS.cell 2).trans (four_at _ 2 (by omega))
        have fs := hS.frozen 2
        have sb := sn_le (xs.take k) 2
        have HK := Lib.hid hk
        have HT := Lib.hid hT2
        have HS := Lib.hid hS2
        have HA := Lib.hid hA2
        have HB := Lib.hid hb2
        clear hT hS hA hk hT2 hS2 hA2 hb2
        by_cases hL : mn ∈ xs.take k
        · have hL2 : decide (mn ∈ xs.take k) = true := by simpa using hL
          rw [hL2] at HM1 ⊢
          by_cases hM : mx ∈ xs.take k
          · have hM2 : decide (mx ∈ xs.take k) = true := by simpa using hM
            rw [hM2] at HM2 ⊢
            clear hL hM hL2 hM2
            go_wp2
            all_goals
              go_roundw
              case rel => exact ⟨k + 1, by omega, by go_num, by rw [HM1.out]; rfl, by rw [HM2.out]; rfl, HA.out, HT.out, HS.out, HB.out⟩
              case measure => simp [intOf]; omega
          · have hM2 : decide (mx ∈ xs.take k) = false := by simpa using hM
            rw [hM2] at HM2 ⊢
            clear hL hM hL2 hM2
            go_wp2
            all_goals
              go_roundw
              case rel => exact ⟨k + 1, by omega, by go_num, by rw [HM1.out]; rfl, by rw [HM2.out]; rfl, HA.out, HT.out, HS.out, HB.out⟩
              case measure => simp [intOf]; omega
        · have hL2 : decide (mn ∈ xs.take k) = false := by simpa using hL
          rw [hL2] at HM1 ⊢
          by_cases hM : mx ∈ xs.take k
          · have hM2 : decide (mx ∈ xs.take k) = true := by simpa using hM
            rw [hM2] at HM2 ⊢
            clear hL hM hL2 hM2
            go_wp2
            all_goals
              go_roundw
              case rel => exact ⟨k + 1, by omega, by go_num, by rw [HM1.out]; rfl, by rw [HM2.out]; rfl, HA.out, HT.out, HS.out, HB.out⟩
              case measure => simp [intOf]; omega
          · have hM2 : decide (mx ∈ xs.take k) = false := by simpa using hM
            rw [hM2] at HM2 ⊢
            clear hL hM hL2 hM2
            go_wp2
            all_goals
              go_roundw
              case rel => exact ⟨k + 1, by omega, by go_num, by rw [HM1.out]; rfl, by rw [HM2.out]; rfl, HA.out, HT.out, HS.out, HB.out⟩
              case measure => simp [intOf]; omega
      · have hm1 := mem_dec (xs.take k) mn x
        have hm2 := mem_dec (xs.take k) mx x
        rw [← hts] at hm1 hm2
        have HM1 := Lib.hid hm1
        have HM2 := Lib.hid hm2
        have HTS := Lib.hid hts
        clear hm1 hm2 hts
        have hT2 := (hT.set r (.int .i64 (tn (xs.take k) r + 1))).far (w2.heap.size + 2) 3 (.int .i64 (sn (xs.take k) 3 + 1)) (by omega)
        have hS2 := (hS.far (w2.heap.size + 1) r (.int .i64 (tn (xs.take k) r + 1)) (by omega)).set 3 (.int .i64 (sn (xs.take k) 3 + 1))
        have hA2 := (hA.far (w2.heap.size + 1) r (.int .i64 (tn (xs.take k) r + 1)) (by omega)).far (w2.heap.size + 2) 3 (.int .i64 (sn (xs.take k) 3 + 1)) (by omega)
        rw [four_set _ (tn (xs.take (k + 1))) r hr4 (fun j _ => by rw [HTS.out]; exact tn_snoc _ _ _ _ HR.out)] at hT2
        rw [four_set _ (sn (xs.take (k + 1))) 3 (by omega) (fun j _ => by rw [HTS.out]; exact sn_snoc _ _ _ _ hk)] at hS2
        have hb2 := (hb.setCell (p := ⟨w2.heap.size + 1, r, none⟩) (Nat.le_succ _) (.int .i64 (tn (xs.take k) r + 1))).setCell (p := ⟨w2.heap.size + 2, 3, none⟩) (by show _ ≤ w2.heap.size + 2; omega) (.int .i64 (sn (xs.take k) 3 + 1))
        have cs : wr.cell? ⟨w2.heap.size + 2, 3, none⟩ = some (.int .i64 (sn (xs.take k) 3)) := (hS.cell 3).trans (four_at _ 3 (by omega))
        have fs := hS.frozen 3
        have sb := sn_le (xs.take k) 3
        have HK := Lib.hid hk
        have HT := Lib.hid hT2
        have HS := Lib.hid hS2
        have HA := Lib.hid hA2
        have HB := Lib.hid hb2
        clear hT hS hA hk hT2 hS2 hA2 hb2
        by_cases hL : mn ∈ xs.take k
        · have hL2 : decide (mn ∈ xs.take k) = true := by simpa using hL
          rw [hL2] at HM1 ⊢
          by_cases hM : mx ∈ xs.take k
          · have hM2 : decide (mx ∈ xs.take k) = true := by simpa using hM
            rw [hM2] at HM2 ⊢
            clear hL hM hL2 hM2
            go_wp2
            all_goals
              go_roundw
              case rel => exact ⟨k + 1, by omega, by go_num, by rw [HM1.out]; rfl, by rw [HM2.out]; rfl, HA.out, HT.out, HS.out, HB.out⟩
              case measure => simp [intOf]; omega
          · have hM2 : decide (mx ∈ xs.take k) = false := by simpa using hM
            rw [hM2] at HM2 ⊢
            clear hL hM hL2 hM2
            go_wp2
            all_goals
              go_roundw
              case rel => exact ⟨k + 1, by omega, by go_num, by rw [HM1.out]; rfl, by rw [HM2.out]; rfl, HA.out, HT.out, HS.out, HB.out⟩
              case measure => simp [intOf]; omega
        · have hL2 : decide (mn ∈ xs.take k) = false := by simpa using hL
          rw [hL2] at HM1 ⊢
          by_cases hM : mx ∈ xs.take k
          · have hM2 : decide (mx ∈ xs.take k) = true := by simpa using hM
            rw [hM2] at HM2 ⊢
            clear hL hM hL2 hM2
            go_wp2
            all_goals
              go_roundw
              case rel => exact ⟨k + 1, by omega, by go_num, by rw [HM1.out]; rfl, by rw [HM2.out]; rfl, HA.out, HT.out, HS.out, HB.out⟩
              case measure => simp [intOf]; omega
          · have hM2 : decide (mx ∈ xs.take k) = false := by simpa using hM
            rw [hM2] at HM2 ⊢
            clear hL hM hL2 hM2
            go_wp2
            all_goals
              go_roundw
              case rel => exact ⟨k + 1, by omega, by go_num, by rw [HM1.out]; rfl, by rw [HM2.out]; rfl, HA.out, HT.out, HS.out, HB.out⟩
              case measure => simp [intOf]; omega
    · have hall : xs.take k = xs := List.take_of_length_le (by rw [HXL.out]; omega)
      rw [hall] at hT hS ⊢
      clear hall
      by_cases h0 : N = 0
      · subst h0
        have hx0 : xs = [] := List.length_eq_zero_iff.1 HXL.out
        obtain ⟨e1, e2, e3⟩ := HNN.out hx0
        have hz : (⟨((0 : Nat) : Int), sm, mn, mx, sn xs 0, sn xs 1, sn xs 2, sn xs 3, tn xs 0 - tn xs 2, tn xs 1 - tn xs 3⟩ : Ag) = ⟨0, 0, 0, 0, 0, 0, 0, 0, 0, 0⟩ := by
          rw [e1, e2, e3, hx0]; rfl
        rw [hz] at hA
        have hq : ∀ w, (binOp .eql 53 (.agg #[.int .i64 0, .int .i64 0, .int .i64 0, .int .i64 0, .int .i64 0, .int .i64 0, .int .i64 0, .int .i64 0, .int .i64 0, .int .i64 0]) (.agg #[.int .i64 0, .int .i64 0, .int .i64 0, .int .i64 0, .int .i64 0, .int .i64 0, .int .i64 0, .int .i64 0, .int .i64 0, .int .i64 0])).run Try.prog w = .ok (.bool true) w := fun w => agg_eq ⟨0, 0, 0, 0, 0, 0, 0, 0, 0, 0⟩ w
        obtain ⟨c0, c1, c2, c3, c4, c5, c6, c7, c8, c9, f0, f1, f2, f3, f4, f5, f6, f7, f8, f9⟩ := hA.ten
        have HX0 := Lib.hid hx0
        have hb9 := g2.trans (hb.mono g2.size)
        clear hx0 e1 e2 e3 hz hA hT hS f0 f1 f2 f3 f4 f5 f6 f7 f8 f9 hk hlt
        go_wp2_with fail
        refine (awake15_walk _).mono ?_
        rintro e w5 ⟨rfl, g5⟩
        go_wp2_with fail
        go_ret
        exact ⟨rfl, gtrans hb9 g5⟩
      · have hne : xs ≠ [] := by intro h; have := HXL.out; rw [h] at this; simp at this; omega
        obtain ⟨m1, _, m3, _⟩ := HMM.out hne
        have d1 : decide (mn ∈ xs) = true := by simpa using m1
        have d2 : decide (mx ∈ xs) = true := by simpa using m3
        rw [d1, d2]
        have hN0 : ((N : Int) == 0) = false := by
          have : (N : Int) ≠ 0 := by omega
          simpa using this
        have hNN : ((N : Int) == (N : Int)) = true := by simp
        have hh := hist_eq (sn xs 0) (sn xs 1) (sn xs 2) (sn xs 3)
        have hr1 : ((tn xs 0 - tn xs 2 : Int) == tn xs 0 - tn xs 2) = true := by simp
        have hr2 : ((tn xs 1 - tn xs 3 : Int) == tn xs 1 - tn xs 3) = true := by simp
        have hxl3 : (xs.length : Int) ≤ 300 := by rw [HXL.out]; omega
        have t0 := tn_le xs 0
        have t1 := tn_le xs 1
        have t2 := tn_le xs 2
        have t3 := tn_le xs 3
        obtain ⟨c0, c1, c2, c3, c4, c5, c6, c7, c8, c9, f0, f1, f2, f3, f4, f5, f6, f7, f8, f9⟩ := hA.ten
        have u0 : wr.cell? ⟨w2.heap.size + 1, 0, none⟩ = some (.int .i64 (tn xs 0)) := hT.cell 0
        have u1 : wr.cell? ⟨w2.heap.size + 1, 1, none⟩ = some (.int .i64 (tn xs 1)) := hT.cell 1
        have u2 : wr.cell? ⟨w2.heap.size + 1, 2, none⟩ = some (.int .i64 (tn xs 2)) := hT.cell 2
        have u3 : wr.cell? ⟨w2.heap.size + 1, 3, none⟩ = some (.int .i64 (tn xs 3)) := hT.cell 3
        have v0 : wr.cell? ⟨w2.heap.size + 2, 0, none⟩ = some (.int .i64 (sn xs 0)) := hS.cell 0
        have v1 : wr.cell? ⟨w2.heap.size + 2, 1, none⟩ = some (.int .i64 (sn xs 1)) := hS.cell 1
        have v2 : wr.cell? ⟨w2.heap.size + 2, 2, none⟩ = some (.int .i64 (sn xs 2)) := hS.cell 2
        have v3 : wr.cell? ⟨w2.heap.size + 2, 3, none⟩ = some (.int .i64 (sn xs 3)) := hS.cell 3
        have hb9 := g2.trans (hb.mono g2.size)
        have HNE := Lib.hid hne
        clear hA hT hS f0 f1 f2 f3 f4 f5 f6 f7 f8 f9 hne m1 m3 d1 d2 h0
        go_wp2_with fail
        refine (awake15_walk _).mono ?_
        rintro e w5 ⟨rfl, g5⟩
        go_wp2_with fail
        go_ret
        exact ⟨rfl, gtrans hb9 g5⟩
end Go.Proofs.Ytnjojbanbcahnaa
