/- The document's least. -/
import Derived.Test.YthghnpopcnnidaaHrR
namespace Go.Proofs.Ythghnpopcnnidaa
open Go.RowKit Vm
set_option linter.unusedVariables false
set_option linter.unusedSimpArgs false

set_option maxRecDepth 100000 in
set_option maxHeartbeats 8000000 in
theorem least_walk (L : List Ta) (N : Nat) (a : Option Addr) (c g : Nat) (w : World) (hN : L.length = N) (hNm : N ≤ 1000) (h0 : 0 < N) (m2 : w.cell? ⟨g, 2, none⟩ = some (.slice a N c)) (h : Sl w w.heap.size a (taCells L)) :
    Calls Try.prog 29 #[.pointer (some ⟨g, 0, none⟩)] w fun e w' => e = .returned (.int .i64 (firstR L : Nat)) ∧ Below w.heap.size w w' := by
  have HN := Lib.hid hN
  have HS := Lib.hid h
  have HFR := Lib.hid (show firstR L = firstTo L N from by unfold firstR; rw [hN])
  have H1 := Lib.hid (firstTo_one L)
  have hgl : g < w.heap.size := cell_lt m2
  have HM := Lib.hid m2
  clear hN h m2
  go_enter Try.func29, Try.ntmps29
  go_wp2_with fail
  go_loopw [3, 4] (fun Bs I wr => ∃ k q : Nat, 1 ≤ k ∧ k ≤ N ∧ q < N ∧ I = .int .i64 k ∧ Bs = .int .i64 q ∧ Hid (q = firstTo L k) ∧ Below w.heap.size w wr) (fun _ I _ => N - (intOf I).toNat)
  case atStart => exact ⟨1, 0, by omega, by omega, h0, rfl, rfl, Lib.hid H1.out.symm, Below.refl _ _⟩
  case round =>
    obtain ⟨k, q, hk1, hk, hq, rfl, rfl, HQ, hb⟩ := hrel
    have m2 := (hb.cell hgl).trans HM.out
    by_cases hlt : k < N
    · have hlt2 : (k : Int) < (N : Int) := by omega
      have hk0 : 0 ≤ (k : Int) := by omega
      have hq2 : (q : Int) < (N : Int) := by omega
      have hq0 : 0 ≤ (q : Int) := by omega
      obtain ⟨b1, o1, rfl, hb1, hc⟩ := (HS.out.below hb (Nat.le_refl _)).ta (by rw [HN.out]; exact h0)
      obtain ⟨r0, r1, _⟩ := hc k (by rw [HN.out]; exact hlt)
      obtain ⟨s0, s1, _⟩ := hc q (by rw [HN.out]; exact hq)
      have HT : firstTo L (k + 1) = if lessR (L.getD k ta0) (L.getD q ta0) = true then k else q := by
        show (if _ then _ else _) = _
        rw [← HQ.out]
      have hz1 : b1 < wr.heap.size := by have := hb.size; omega
      have hgw : g < wr.heap.size := by have := hb.size; omega
      obtain ⟨x, hx⟩ : ∃ x, L.getD k ta0 = x := ⟨_, rfl⟩
      obtain ⟨y, hy⟩ : ∃ y, L.getD q ta0 = y := ⟨_, rfl⟩
      rw [hx] at r0 r1 HT
      rw [hy] at s0 s1 HT
      have hbd := Lib.hid (fun nq => hb.trans (below_drewN w.heap.size wr nq))
      obtain ⟨xa, xb, xc⟩ := x
      obtain ⟨ya, yb, yc⟩ := y
      simp only at r0 r1 s0 s1
      clear hc hx hy
      have hcs : (xb < yb ∧ firstTo L (k + 1) = k) ∨ (¬ xb < yb ∧ (xb == yb) = false ∧ firstTo L (k + 1) = q) ∨ (¬ xb < yb ∧ (xb == yb) = true ∧ xa < ya ∧ firstTo L (k + 1) = k) ∨ (¬ xb < yb ∧ (xb == yb) = true ∧ ¬ xa < ya ∧ firstTo L (k + 1) = q) := by
        unfold lessR at HT
        simp only at HT
        by_cases c1 : xb < yb
        · left; exact ⟨c1, by rw [HT, if_pos (by simp [c1])]⟩
        · right
          by_cases c2 : xb = yb
          · subst c2
            by_cases c3 : xa < ya
            · right; left; exact ⟨c1, by simp, c3, by rw [HT, if_pos (by simp [c3])]⟩
            · right; right; exact ⟨c1, by simp, c3, by rw [HT, if_neg (by simp [c3])]⟩
          · left; exact ⟨c1, by simpa using c2, by rw [HT, if_neg (by simp [c1, c2])]⟩
      have hcs : (decide (xb < yb) = true ∧ firstTo L (k + 1) = k) ∨ (decide (xb < yb) = false ∧ (xb == yb) = false ∧ firstTo L (k + 1) = q) ∨ (decide (xb < yb) = false ∧ (xb == yb) = true ∧ decide (xa < ya) = true ∧ firstTo L (k + 1) = k) ∨ (decide (xb < yb) = false ∧ (xb == yb) = true ∧ decide (xa < ya) = false ∧ firstTo L (k + 1) = q) := by
        rcases hcs with ⟨c1, hE⟩ | ⟨c1, c2, hE⟩ | ⟨c1, c2, c3, hE⟩ | ⟨c1, c2, c3, hE⟩
        · exact .inl ⟨by simpa using c1, hE⟩
        · exact .inr (.inl ⟨decide_eq_false c1, c2, hE⟩)
        · exact .inr (.inr (.inl ⟨decide_eq_false c1, c2, by simpa using c3, hE⟩))
        · exact .inr (.inr (.inr ⟨decide_eq_false c1, c2, decide_eq_false c3, hE⟩))
      clear HT
      rcases hcs with ⟨c1, hE⟩ | ⟨c1, c2, hE⟩ | ⟨c1, c2, c3, hE⟩ | ⟨c1, c2, c3, hE⟩
      all_goals
        have HE := Lib.hid hE
        clear hE
        go_wp2_with fail
        go_quiet (fail)
        clear r0 r1 s0 s1 m2
        go_wp2_with fail
        go_roundw
        case rel => first | exact ⟨k + 1, k, by omega, by omega, by omega, by go_num, rfl, Lib.hid HE.out.symm, hbd.out _⟩ | exact ⟨k + 1, q, by omega, by omega, by omega, by go_num, rfl, Lib.hid HE.out.symm, hbd.out _⟩
        case measure => simp [intOf]; omega
    · obtain rfl : k = N := by omega
      have HE := Lib.hid (HFR.out.trans HQ.out.symm)
      go_wp2_with fail
      go_ret
      exact ⟨by rw [HE.out]; rfl, hb⟩
end Go.Proofs.Ythghnpopcnnidaa
