/- The walks of headgateref09's Count, has, above. -/
import Derived.Test.YtafibgekikjlhaaAsRRange
namespace Go.Proofs.Ytafibgekikjlhaa
open Go.RowKit Vm As
set_option linter.unusedVariables false
set_option linter.unusedSimpArgs false

theorem cnt_take (L : List Int) (x : Int) (i : Nat) (h : i < L.length) : cnt (L.take (i + 1)) x = cnt (L.take i) x + if L.getD i 0 = x then 1 else 0 := by
  rw [take_one_more L i h]
  unfold cnt
  rw [List.count_append, List.count_singleton]
  by_cases e : L.getD i 0 = x <;> simp [e]
set_option maxRecDepth 100000 in
set_option maxHeartbeats 8000000 in
theorem rcount_walk (L : List Int) (N : Nat) (x : Int) (a : Option Addr) (c B : Nat) (w : World) (hN : L.length = N) (hNm : N ≤ 1000) (h : Sl w B a (i64s L)) (hB : B ≤ w.heap.size) :
    Calls Try.prog 34 #[.slice a N c, .int .i64 x] w fun e w' => e = .returned (.int .i64 ((cnt L x : Nat) : Int)) ∧ w' = w := by
  have HL := Lib.hid hN
  have HS := Lib.hid h
  clear hN h
  go_enter Try.func34, Try.ntmps34
  go_wp2_with fail
  go_loopw [5, 6] (fun C I wr => ∃ (i q : Nat), i ≤ N ∧ q ≤ i ∧ I = .int .i64 i ∧ C = .int .i64 q ∧ Hid (q = cnt (L.take i) x) ∧ wr = w) (fun _ I _ => N - (intOf I).toNat)
  case atStart => exact ⟨0, 0, Nat.zero_le _, Nat.le_refl _, rfl, rfl, Lib.hid rfl, rfl⟩
  case round =>
    obtain ⟨i, q, hiN, hqi, rfl, rfl, HQ, hwr⟩ := hrel
    subst hwr
    by_cases hlt : i < N
    · have hli : (i : Int) < (N : Int) := by omega
      have hi0 : 0 ≤ (i : Int) := by omega
      obtain ⟨bx, ox, rfl, hbx, hcx⟩ := HS.out.ints (by rw [HL.out]; omega)
      have r0 := hcx i (by rw [HL.out]; exact hlt)
      have hzb : bx < wr.heap.size := by omega
      obtain ⟨y, hy⟩ : ∃ y, L.getD i 0 = y := ⟨_, rfl⟩
      have HT := Lib.hid (cnt_take L x i (by rw [HL.out]; exact hlt))
      rw [hy] at r0 HT
      have Hwi := Lib.hid (show IntKind.i64.wrap ((i : Int) + 1) = ((i + 1 : Nat) : Int) by rw [IntWalk.i64_in _ (by omega)]; omega)
      have Hwq := Lib.hid (show IntKind.i64.wrap ((q : Int) + 1) = ((q + 1 : Nat) : Int) by rw [IntWalk.i64_in _ (by omega)]; omega)
      clear hcx hy
      by_cases he : y = x
      · have hbe : (y == x) = true := by rw [he]; exact beq_self_eq_true _
        have HQ2 := Lib.hid (show q + 1 = cnt (L.take (i + 1)) x by rw [HT.out, ← HQ.out, if_pos he])
        clear he
        go_upto_region 6 with fail
        clear r0
        have hwq := Hwq.out
        go_upto_region 4 with fail
        clear hwq
        have hwi := Hwi.out
        go_wp2_with fail
        go_roundw
        case rel => exact ⟨i + 1, q + 1, by omega, by omega, by go_num, by go_num, HQ2, trivial⟩
        case measure => simp [intOf]; omega
      · have hbe : (y == x) = false := beq_eq_false_iff_ne.2 he
        have HQ2 := Lib.hid (show q = cnt (L.take (i + 1)) x by rw [HT.out, ← HQ.out, if_neg he]; rfl)
        clear he
        go_upto_region 4 with fail
        clear r0
        have hwi := Hwi.out
        go_wp2_with fail
        go_roundw
        case rel => exact ⟨i + 1, q, by omega, by omega, by go_num, by go_num, HQ2, trivial⟩
        case measure => simp [intOf]; omega
    · obtain rfl : i = N := by omega
      have HQ2 := Lib.hid (show q = cnt L x by rw [HQ.out, List.take_of_length_le (by rw [HL.out]; exact Nat.le_refl _)])
      go_wp2_with fail
      go_ret
      exact ⟨by rw [← HQ2.out]; rfl, rfl⟩
set_option maxRecDepth 100000 in
theorem rhas_walk (L : List Int) (N : Nat) (x : Int) (d : Bool) (a : Option Addr) (c B : Nat) (w : World) (hN : L.length = N) (hNm : N ≤ 1000) (h : Sl w B a (i64s L)) (hB : B ≤ w.heap.size) (hd : d = true ↔ x ∈ L) :
    Calls Try.prog 73 #[.slice a N c, .int .i64 x] w fun e w' => e = .returned (.bool d) ∧ w' = w := by
  have K := Lib.hid (rcount_walk L N x a c B w hN hNm h hB)
  have hdd : decide ((0 : Int) < ((cnt L x : Nat) : Int)) = d := by
    have hc : 0 < cnt L x ↔ x ∈ L := List.count_pos_iff
    cases d
    · rw [decide_eq_false_iff_not]; intro h2; have := hd.2 (hc.1 (by omega)); cases this
    · rw [decide_eq_true_iff]; have := hc.2 (hd.1 rfl); omega
  generalize hq : cnt L x = q at K hdd
  clear hd h hq
  go_enter Try.func73, Try.ntmps73
  go_wp2_with fail
  refine K.out.mono ?_
  rintro e w1 ⟨rfl, hw⟩
  subst hw
  go_wp2_with fail
  go_ret
  exact ⟨by rw [← hdd]; simp, rfl⟩
theorem abv_take (L m : List Int) (n i : Nat) (h : i < m.length) : abv L (m.take (i + 1)) n = abv L (m.take i) n + if n < cnt L (m.getD i 0) then 1 else 0 := by
  rw [take_one_more m i h]
  unfold abv
  rw [List.countP_append, List.countP_singleton]
  by_cases e : n < cnt L (m.getD i 0) <;> simp [e]
set_option maxRecDepth 100000 in
set_option maxHeartbeats 8000000 in
theorem rabove_walk (L m : List Int) (N k n : Nat) (a a2 : Option Addr) (c c2 B B2 : Nat) (w : World) (hN : L.length = N) (hNm : N ≤ 1000) (h : Sl w B a (i64s L)) (hB : B ≤ w.heap.size) (hk : m.length = k) (hkm : k ≤ 1000) (h2 : Sl w B2 a2 (i64s m)) (hB2 : B2 ≤ w.heap.size) :
    Calls Try.prog 74 #[.slice a N c, .slice a2 k c2, .int .i64 (n : Int)] w fun e w' => e = .returned (.int .i64 ((abv L m n : Nat) : Int)) ∧ w' = w := by
  have HK := Lib.hid hk
  have HS := Lib.hid h2
  have KC := Lib.hid (fun x => rcount_walk L N x a c B w hN hNm h hB)
  clear hN h hk h2
  go_enter Try.func74, Try.ntmps74
  go_wp2_with fail
  go_loopw [7, 8] (fun C I wr => ∃ (i q : Nat), i ≤ k ∧ q ≤ i ∧ I = .int .i64 i ∧ C = .int .i64 q ∧ Hid (q = abv L (m.take i) n) ∧ wr = w) (fun _ I _ => k - (intOf I).toNat)
  case atStart => exact ⟨0, 0, Nat.zero_le _, Nat.le_refl _, rfl, rfl, Lib.hid rfl, rfl⟩
  case round =>
    obtain ⟨i, q, hiN, hqi, rfl, rfl, HQ, hwr⟩ := hrel
    subst hwr
    by_cases hlt : i < k
    · have hli : (i : Int) < (k : Int) := by omega
      have hi0 : 0 ≤ (i : Int) := by omega
      obtain ⟨bx, ox, rfl, hbx, hcx⟩ := HS.out.ints (by rw [HK.out]; omega)
      have r0 := hcx i (by rw [HK.out]; exact hlt)
      have hzb : bx < wr.heap.size := by omega
      obtain ⟨y, hy⟩ : ∃ y, m.getD i 0 = y := ⟨_, rfl⟩
      have HT := Lib.hid (abv_take L m n i (by rw [HK.out]; exact hlt))
      rw [hy] at r0 HT
      have KY := Lib.hid (KC.out y)
      obtain ⟨cy, hcy⟩ : ∃ cy, cnt L y = cy := ⟨_, rfl⟩
      rw [hcy] at KY HT
      have Hwi := Lib.hid (show IntKind.i64.wrap ((i : Int) + 1) = ((i + 1 : Nat) : Int) by rw [IntWalk.i64_in _ (by omega)]; omega)
      have Hwq := Lib.hid (show IntKind.i64.wrap ((q : Int) + 1) = ((q + 1 : Nat) : Int) by rw [IntWalk.i64_in _ (by omega)]; omega)
      clear hcx hy hcy
      by_cases he : n < cy
      · have hbe : (n : Int) < (cy : Int) := by omega
        have HQ2 := Lib.hid (show q + 1 = abv L (m.take (i + 1)) n by rw [HT.out, ← HQ.out, if_pos he])
        clear he
        go_wp2_with fail
        refine KY.out.mono ?_
        rintro e w4 ⟨rfl, hw4⟩
        subst hw4
        clear r0 KY
        go_upto_region 6 with fail
        have hwq := Hwq.out
        go_upto_region 4 with fail
        clear hwq
        have hwi := Hwi.out
        go_wp2_with fail
        go_roundw
        case rel => exact ⟨i + 1, q + 1, by omega, by omega, by go_num, by go_num, HQ2, trivial⟩
        case measure => simp [intOf]; omega
      · have hbe : ¬ (n : Int) < (cy : Int) := by omega
        have HQ2 := Lib.hid (show q = abv L (m.take (i + 1)) n by rw [HT.out, ← HQ.out, if_neg he]; rfl)
        clear he
        go_wp2_with fail
        refine KY.out.mono ?_
        rintro e w4 ⟨rfl, hw4⟩
        subst hw4
        clear r0 KY
        go_upto_region 4 with fail
        have hwi := Hwi.out
        go_wp2_with fail
        go_roundw
        case rel => exact ⟨i + 1, q, by omega, by omega, by go_num, by go_num, HQ2, trivial⟩
        case measure => simp [intOf]; omega
    · obtain rfl : i = k := by omega
      have HQ2 := Lib.hid (show q = abv L m n by rw [HQ.out, List.take_of_length_le (by rw [HK.out]; exact Nat.le_refl _)])
      go_wp2_with fail
      go_ret
      exact ⟨by rw [← HQ2.out]; rfl, rfl⟩
end Go.Proofs.Ytafibgekikjlhaa
