/- The walk of headgateref06.May. -/
import Derived.Test.YtfjnmjibifefgaaRefRecMay
import Derived.Test.YtfjnmjibifefgaaRw
namespace Go.Proofs.Ytfjnmjibifefgaa
open Go.RowKit Vm Bm
set_option linter.unusedVariables false

set_option maxRecDepth 100000 in
set_option maxHeartbeats 16000000 in
theorem rmay_walk (b : Bat) (a : Option Addr) (c B : Nat) (w : World) (d : Bool) (hd : d = true ↔ MayB b) (hl : Sl w B a (recCells b.l)) (hB : B ≤ w.heap.size) :
    Calls Try.prog 24 #[bv b a c] w fun e w' => e = .returned (.bool d) ∧ Below w.heap.size w w' := by
  have HF := Lib.hid (show ¬ MayB b → d = false from fun h => by rw [Bool.eq_false_iff, Ne, hd]; exact h)
  have HD := Lib.hid hd
  clear hd
  have R0 := Whole.new w 25 (bvc b a c)
  have B0 := (Below.refl w.heap.size w).alloc (Nat.le_refl _) (.cells (bvc b a c) 25)
  have L0 := hl.below B0 hB
  obtain ⟨c0, c1, c2, c3, c4, hg⟩ := R0.five
  obtain ⟨k, p, e, q, l⟩ := b
  simp only [bv]
  simp only [bvc] at *
  have hz : 0 ≤ (l.length : Int) := by omega
  by_cases hp : 0 ≤ p ∧ p ≤ 1099511627776
  · have HP := Lib.hid hp
    by_cases hp8 : 8 < p
    · obtain rfl := HF.out (fun h => by have := h.1; unfold HeadB at this; simp only at this; omega)
      clear hp hz
      go_enter Try.func24, Try.ntmps24
      go_wp2_with fail
      refine (in_walk p true _ ⟨fun _ => HP.out, fun _ => rfl⟩).mono ?_
      rintro e w1 ⟨rfl, rfl⟩
      go_wp2_with fail
      go_ret
      exact ⟨rfl, B0⟩
    by_cases he : ¬ (0 ≤ e ∧ e ≤ 1099511627776)
    · obtain rfl := HF.out (fun h => by have := h.1; unfold HeadB at this; simp only at this; omega)
      have HE := Lib.hid he
      clear hp hz he
      go_enter Try.func24, Try.ntmps24
      go_wp2_with fail
      refine (in_walk p true _ ⟨fun _ => HP.out, fun _ => rfl⟩).mono ?_
      rintro x w1 ⟨rfl, rfl⟩
      go_wp2_with fail
      refine (in_walk e false _ ⟨fun h => (by cases h), fun h => absurd h HE.out⟩).mono ?_
      rintro x w1 ⟨rfl, rfl⟩
      go_wp2_with fail
      go_ret
      exact ⟨rfl, B0⟩
    have HE := Lib.hid (Classical.not_not.1 he)
    by_cases hq : ¬ (0 ≤ q ∧ q ≤ 1099511627776)
    · obtain rfl := HF.out (fun h => by have := h.1; unfold HeadB at this; simp only at this; omega)
      have HQ := Lib.hid hq
      clear hp hz he hq
      go_enter Try.func24, Try.ntmps24
      go_wp2_with fail
      refine (in_walk p true _ ⟨fun _ => HP.out, fun _ => rfl⟩).mono ?_
      rintro x w1 ⟨rfl, rfl⟩
      go_wp2_with fail
      refine (in_walk e true _ ⟨fun _ => HE.out, fun _ => rfl⟩).mono ?_
      rintro x w1 ⟨rfl, rfl⟩
      go_wp2_with fail
      refine (in_walk q false _ ⟨fun h => (by cases h), fun h => absurd h HQ.out⟩).mono ?_
      rintro x w1 ⟨rfl, rfl⟩
      go_wp2_with fail
      go_ret
      exact ⟨rfl, B0⟩
    have HQ := Lib.hid (Classical.not_not.1 hq)
    by_cases hn : 64 < (l.length : Int)
    · obtain rfl := HF.out (fun h => by have := h.1; unfold HeadB at this; simp only at this; omega)
      clear hp hz he hq
      go_enter Try.func24, Try.ntmps24
      go_wp2_with fail
      refine (in_walk p true _ ⟨fun _ => HP.out, fun _ => rfl⟩).mono ?_
      rintro x w1 ⟨rfl, rfl⟩
      go_wp2_with fail
      refine (in_walk e true _ ⟨fun _ => HE.out, fun _ => rfl⟩).mono ?_
      rintro x w1 ⟨rfl, rfl⟩
      go_wp2_with fail
      refine (in_walk q true _ ⟨fun _ => HQ.out, fun _ => rfl⟩).mono ?_
      rintro x w1 ⟨rfl, rfl⟩
      go_wp2_with fail
      go_ret
      exact ⟨rfl, B0⟩
    have hH : 0 ≤ p ∧ p ≤ 8 ∧ 0 ≤ e ∧ e ≤ 1099511627776 ∧ 0 ≤ q ∧ q ≤ 1099511627776 ∧ l.length ≤ 64 := by omega
    have HH := Lib.hid (show HeadB ⟨k, p, e, q, l⟩ from hH)
    have HHo := Lib.hid hH
    clear hp hz he hq hH
    go_enter Try.func24, Try.ntmps24
    go_wp2_with fail
    refine (in_walk p true _ ⟨fun _ => HP.out, fun _ => rfl⟩).mono ?_
    rintro x w1 ⟨rfl, rfl⟩
    go_wp2_with fail
    refine (in_walk e true _ ⟨fun _ => HE.out, fun _ => rfl⟩).mono ?_
    rintro x w1 ⟨rfl, rfl⟩
    go_wp2_with fail
    refine (in_walk q true _ ⟨fun _ => HQ.out, fun _ => rfl⟩).mono ?_
    rintro x w1 ⟨rfl, rfl⟩
    go_wp2_with fail
    obtain ⟨W, hW⟩ : ∃ W, W = w.alloc (.cells #[.int .i64 k, .int .i64 p, .int .i64 e, .int .i64 q, .slice a l.length c] 25) := ⟨_, rfl⟩
    rw [← hW] at R0 B0 L0 hg
    rw [← hW]
    clear hW c0 c1 c2 c3 c4 hl
    go_loopw [3] (fun i wr => ∃ n : Nat, n ≤ l.length ∧ i = .int .i64 n ∧ (∀ r ∈ l.take n, MayR r) ∧ Below W.heap.size W wr) (fun i _ => l.length - (intOf i).toNat)
    case atStart => exact ⟨0, by omega, rfl, by simp, Below.refl _ _⟩
    case round =>
      obtain ⟨n, hnl, rfl, hm, hb⟩ := hrel
      have HMK := Lib.hid hm
      have LR := L0.below hb (Nat.le_trans hB B0.size)
      have RR := R0.keep hb
      have BR := B0.trans (hb.mono B0.size)
      obtain ⟨c0, c1, c2, c3, c4, hg'⟩ := Whole.five (b := ⟨k, p, e, q, l⟩) RR
      simp only at c0 c1 c2 c3 c4
      clear hm RR
      by_cases hlt : n < l.length
      · obtain ⟨b1, o1, rfl, hb1, r0, r1, r2⟩ := LR.rec hlt
        have hts := Lib.hid (List.take_succ_eq_append_getElem hlt)
        have hmem := Lib.hid (List.getElem_mem hlt)
        generalize l[n] = r at *
        by_cases hr : MayR r
        · have HR := Lib.hid hr
          clear hr
          have P := Lib.hid (fun W => mayrec_walk r true W ⟨fun _ => HR.out, fun _ => rfl⟩)
          go_wp2_with fail
          refine (P.out _).mono ?_
          rintro x w5 ⟨rfl, g5⟩
          go_wp2_with fail
          go_roundw
          case rel => exact ⟨n + 1, by omega, by go_num, by rw [hts.out]; intro y hy; rcases List.mem_append.1 hy with hy | hy; exact HMK.out y hy; rw [List.mem_singleton.1 hy]; exact HR.out, hb.trans (g5.mono hb.size)⟩
          case measure => simp [intOf]; omega
        · obtain rfl := HF.out (fun h => hr (h.2.2 r hmem.out))
          have HR := Lib.hid hr
          clear hr
          have P := Lib.hid (fun W => mayrec_walk r false W ⟨fun h => (by cases h), fun h => absurd h HR.out⟩)
          go_wp2_with fail
          refine (P.out _).mono ?_
          rintro x w5 ⟨rfl, g5⟩
          go_wp2_with fail
          go_ret
          exact ⟨rfl, BR.trans (g5.mono BR.size)⟩
      · have hall : ∀ r ∈ l, MayR r := fun r hr => HMK.out r (by rw [List.take_of_length_le (by omega)]; exact hr)
        have hd2 : d = true ↔ KindB ⟨k, p, e, q, l⟩ := by rw [HD.out]; exact ⟨fun h => h.2.1, fun h => ⟨HH.out, h, hall⟩⟩
        unfold KindB Somebody Nobody at hd2
        simp only at hd2
        obtain ⟨N, hN⟩ : ∃ N, l.length = N := ⟨_, rfl⟩
        have hH := HHo.out
        rw [hN] at hd2 c4 hH hlt hnl
        have hcase : (p = 0 ∧ e = 0 ∧ q = 0) ∨ (p = 0 ∧ e = 0 ∧ 0 < q ∧ ¬ q = 0) ∨ (p = 0 ∧ 0 < e ∧ ¬ e = 0) ∨ (0 < p ∧ ¬ p = 0 ∧ e = 0) ∨ (0 < p ∧ ¬ p = 0 ∧ 0 < e ∧ ¬ e = 0 ∧ q = 0) ∨ (0 < p ∧ ¬ p = 0 ∧ 0 < e ∧ ¬ e = 0 ∧ 0 < q ∧ ¬ q = 0) := by omega
        have hk : (¬ k = 1 ∧ ¬ k = 2 ∧ ¬ k = 3 ∧ ¬ k = 4) ∨ (k = 1 ∧ N = 0) ∨ (k = 2 ∧ N = 0) ∨ (k = 3 ∧ N = 0) ∨ (k = 4 ∧ N = 0) ∨ (k = 1 ∧ 0 < N ∧ ¬ N = 0) ∨ (k = 2 ∧ 0 < N ∧ ¬ N = 0) ∨ (k = 3 ∧ 0 < N ∧ ¬ N = 0) ∨ (k = 4 ∧ 0 < N ∧ ¬ N = 0) := by omega
        clear hall HH HHo hH HP HE HQ HF HD HMK LR hp8 hn L0 R0 hN
        cases d with
        | true =>
          have hP := hd2.1 rfl
          clear hd2
          rcases hk with ⟨k1, k2, k3, k4⟩ | ⟨rfl, rfl⟩ | ⟨rfl, rfl⟩ | ⟨rfl, rfl⟩ | ⟨rfl, rfl⟩ | ⟨rfl, n0, n1⟩ | ⟨rfl, n0, n1⟩ | ⟨rfl, n0, n1⟩ | ⟨rfl, n0, n1⟩
          all_goals
            rcases hcase with ⟨rfl, rfl, rfl⟩ | ⟨rfl, rfl, q0, q1⟩ | ⟨rfl, e0, e1⟩ | ⟨p0, p1, rfl⟩ | ⟨p0, p1, e0, e1, rfl⟩ | ⟨p0, p1, e0, e1, q0, q1⟩
          all_goals
            first
              | (exfalso; omega)
              | (clear hP
                 go_wp2_with fail
                 go_ret
                 first | exact ⟨rfl, BR⟩ | exact ⟨by rw [show (q == 0) = false from beq_eq_false_iff_ne.2 q1]; rfl, BR⟩)
        | false =>
          have hP := mt hd2.2 (by simp)
          clear hd2
          rcases hk with ⟨k1, k2, k3, k4⟩ | ⟨rfl, rfl⟩ | ⟨rfl, rfl⟩ | ⟨rfl, rfl⟩ | ⟨rfl, rfl⟩ | ⟨rfl, n0, n1⟩ | ⟨rfl, n0, n1⟩ | ⟨rfl, n0, n1⟩ | ⟨rfl, n0, n1⟩
          all_goals
            rcases hcase with ⟨rfl, rfl, rfl⟩ | ⟨rfl, rfl, q0, q1⟩ | ⟨rfl, e0, e1⟩ | ⟨p0, p1, rfl⟩ | ⟨p0, p1, e0, e1, rfl⟩ | ⟨p0, p1, e0, e1, q0, q1⟩
          all_goals
            first
              | (exfalso; omega)
              | (clear hP
                 go_wp2_with fail
                 go_ret
                 first | exact ⟨rfl, BR⟩ | exact ⟨by rw [show (q == 0) = false from beq_eq_false_iff_ne.2 q1]; rfl, BR⟩)
  · obtain rfl := HF.out (fun h => by have := h.1; unfold HeadB at this; simp only at this; omega)
    have HP := Lib.hid hp
    clear hp hz
    go_enter Try.func24, Try.ntmps24
    go_wp2_with fail
    refine (in_walk p false _ ⟨fun h => (by cases h), fun h => absurd h HP.out⟩).mono ?_
    rintro x w1 ⟨rfl, rfl⟩
    go_wp2_with fail
    go_ret
    exact ⟨rfl, B0⟩
end Go.Proofs.Ytfjnmjibifefgaa
