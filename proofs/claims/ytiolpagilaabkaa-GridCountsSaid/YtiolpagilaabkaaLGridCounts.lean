/- The walk of the statement GridCounts of layer 14. -/
import Derived.Test.YtiolpagilaabkaaLGridCloses
namespace Go.Proofs.Ytiolpagilaabkaa
open Go.RowKit Vm Gm
set_option linter.unusedVariables false

theorem asc_next (T h : Int) (c i : Nat) (hi : i + 1 < (asc T h c).length) : (asc T h c)[i + 1] = (asc T h c)[i]'(by omega) + h := by
  rw [asc_get, asc_get]
  have e : ((c : Int) - 1 - i) = ((c : Int) - 1 - ((i + 1 : Nat) : Int)) + 1 := by omega
  rw [e, Int.add_mul]
  omega
theorem asc_bound (T h : Int) (c i : Nat) (hi : i < (asc T h c).length) (hh : 0 ≤ h) : (asc T h c)[i] ≤ T ∧ T - (c : Int) * h ≤ (asc T h c)[i] := by
  rw [asc_get]
  rw [asc_length] at hi
  have p1 : 0 ≤ ((c : Int) - 1 - i) * h := Int.mul_nonneg (by omega) hh
  have p2 : ((c : Int) - 1 - i) * h ≤ (c : Int) * h := Int.mul_le_mul_of_nonneg_right (by omega) hh
  omega

set_option maxRecDepth 100000 in
set_option maxHeartbeats 4000000 in
theorem gridCounts_law (s h l t : Int) (w : World) (hs0 : (Lit.int .i64 s).wf = true) (hh0 : (Lit.int .i64 h).wf = true) (hl0 : (Lit.int .i64 l).wf = true) (ht0 : (Lit.int .i64 t).wf = true) :
    Calls Try.prog 12 #[gv s h l, .int .i64 t] w fun e w' => e = .returned (.bool true) ∧ Below w.heap.size w w' := by
  have hs := wf_i64 hs0
  have hh := wf_i64 hh0
  have hl := wf_i64 hl0
  have ht := wf_i64 ht0
  clear hs0 hh0 hl0 ht0
  have Hx := Lib.hid (Box.start w s h l)
  have hbel : Below w.heap.size w (w.alloc (.cells #[.int .i64 s, .int .i64 h, .int .i64 l] 40)) := (Below.refl _ _).alloc (Nat.le_refl _) _
  have hsz : w.heap.size < (w.alloc (.cells #[.int .i64 s, .int .i64 h, .int .i64 l] 40)).heap.size := by simp
  by_cases hy : May s h l ∧ 0 ≤ t ∧ t ≤ 1099511627776
  · obtain ⟨hm, h0, h1⟩ := hy
    have HM := Lib.hid hm
    have H1 := Lib.hid (fun w => starts_yes s h l t w HM.out h0 h1)
    obtain ⟨g1, g2, g3, g4, g5, g6, g7, g8⟩ := hm
    have q1 : 0 ≤ s / h := Int.ediv_nonneg (by omega) (by omega)
    have q2 : s / h ≤ s := Int.ediv_le_self _ (by omega)
    have q3 : 0 ≤ t / h := Int.ediv_nonneg (by omega) (by omega)
    have q4 : t / h ≤ t := Int.ediv_le_self _ (by omega)
    have hr0 : 0 ≤ t % h := Int.emod_nonneg _ (by omega)
    have hr1 : t % h < h := Int.emod_lt_of_pos _ (by omega)
    have hT : t / h * h = t - t % h := by have := Int.mul_ediv_add_emod t h; rw [Int.mul_comm] at this; omega
    have hS : s / h * h = s := Int.ediv_mul_cancel (Int.dvd_of_emod_eq_zero g7)
    have hlen : ((starts s h t).length : Int) = min (s / h) (t / h + 1) := by rw [starts_length]; unfold cnt; omega
    have hbig : s ≤ t → s / h ≤ t / h + 1 := fun hst => by
      have := Int.ediv_le_ediv (by omega : 0 < h) hst
      omega
    have hcs : (cnt s h t : Int) * h ≤ s := by
      have e : (cnt s h t : Int) ≤ s / h := by unfold cnt; omega
      have := Int.mul_le_mul_of_nonneg_right e (by omega : 0 ≤ h)
      omega
    have hnext := Lib.hid (fun i (hi : i + 1 < (starts s h t).length) => asc_next (t / h * h) h (cnt s h t) i hi)
    have hbd := Lib.hid (fun i (hi : i < (starts s h t).length) => asc_bound (t / h * h) h (cnt s h t) i hi (by omega))
    have HLEN := Lib.hid hlen
    have HBIG := Lib.hid hbig
    have HCS := Lib.hid hcs
    have HT := Lib.hid hT
    have hn8 : ((starts s h t).length : Int) ≤ 1048576 := by omega
    have hcase : (t < s ∧ s / h ≤ t / h + 1 ∧ (((starts s h t).length : Int) == s / h) = true) ∨ (t < s ∧ t / h + 1 < s / h ∧ (((starts s h t).length : Int) == t / h + 1) = true) ∨ (s ≤ t ∧ s / h ≤ t / h + 1 ∧ (((starts s h t).length : Int) == s / h) = true) := by
      by_cases c1 : t < s
      · by_cases c2 : s / h ≤ t / h + 1
        · exact .inl ⟨c1, c2, by rw [beq_iff_eq]; omega⟩
        · exact .inr (.inl ⟨c1, by omega, by rw [beq_iff_eq]; omega⟩)
      · have := hbig (by omega)
        exact .inr (.inr ⟨by omega, this, by rw [beq_iff_eq]; omega⟩)
    have hbound := Lib.hid (fun i (hi : i < (starts s h t).length) => (show -9000000000 ≤ (starts s h t)[i] ∧ (starts s h t)[i] ≤ 1099511627776 from by
      have := hbd.out i hi
      have e := HT.out
      have e2 := HCS.out
      have e3 : (starts s h t)[i] = (asc (t / h * h) h (cnt s h t))[i]'hi := rfl
      omega))
    have hnx := Lib.hid (fun i (hi : i + 1 < (starts s h t).length) => (show (starts s h t)[i + 1] = (starts s h t)[i]'(Nat.lt_of_succ_lt hi) + h from hnext.out i hi))
    clear g7 g8 hT hS hlen hbig hcs hnext hbd HLEN HBIG HCS HT HM
    generalize hST : starts s h t = st at *
    clear hST
    rcases hcase with ⟨c1, c2, c3⟩ | ⟨c1, c2, c3⟩ | ⟨c1, c2, c3⟩
    all_goals
      go_enter Try.func12, Try.ntmps12
      go_wp2_with fail
      refine (H1.out _).mono ?_
      rintro e w1 ⟨b1, a1, k1, rfl, o1⟩
      have sl := own_sl o1
      obtain ⟨z0, z1, z2⟩ := Hx.out.below b1 hsz
      have hb2 := hbel.trans (b1.mono hbel.size)
      clear o1 b1
      go_wp2_with fail
      go_loopw [8] (fun i wr => ∃ k : Nat, 1 ≤ k ∧ k ≤ st.length + 1 ∧ i = .int .i64 k ∧ Drew w1 wr) (fun i _ => st.length + 1 - (intOf i).toNat)
      case atStart => exact ⟨1, by omega, by omega, rfl, Drew.refl _⟩
      case round =>
        obtain ⟨k, hk1, hk, rfl, hd⟩ := hrel
        by_cases hlt : k < st.length
        · obtain ⟨j, rfl⟩ : ∃ j, k = j + 1 := ⟨k - 1, by omega⟩
          obtain ⟨nd, rfl⟩ := hd
          obtain ⟨b, off, rfl, hb, hc⟩ := sl.at (j := j + 1) (by rw [i64s_length]; exact hlt)
          obtain ⟨b', off', e', hb', hc'⟩ := sl.at (j := j) (by rw [i64s_length]; omega)
          cases e'
          rw [i64s_at _ _ hlt] at hc
          rw [i64s_at _ _ (by omega)] at hc'
          have hB1 := hbound.out j (by omega)
          have hN := hnx.out j hlt
          rw [hN] at hc
          generalize st[j] = y at *
          have hne : (y + h != y + h) = false := by simp
          have hw1 : IntKind.i64.wrap (((j + 1 : Nat) : Int) - 1) = (j : Int) := by rw [IntWalk.i64_in _ (by omega)]; omega
          have hw3 : IntKind.i64.wrap (y + h) = y + h := IntWalk.i64_in _ (by omega)
          have hj0 : ((j + 1 : Nat) : Int) - 1 = (j : Int) := by omega
          have hj1 : (j : Int) < (st.length : Int) := by omega
          have hj2 : ((j + 1 : Nat) : Int) < (st.length : Int) := by omega
          clear hN hB1
          go_wp2
          go_quiet (fail)
          go_wp2
          go_roundw
          case rel => exact ⟨j + 1 + 1, by omega, by omega, by go_num, Drew.of w1 _⟩
          case measure => simp [intOf]; omega
        · go_wp2_with (go_at_call 31; refine (awake14_walk _).mono ?_; rintro e w3 ⟨rfl, h3⟩)
          all_goals
            go_ret
            exact ⟨rfl, gtrans (gdrew hb2 hd) h3⟩
  · have HM := Lib.hid (show ¬ May s h l ∨ t < 0 ∨ 1099511627776 < t by
      by_cases hm : May s h l
      · right
        apply Classical.byContradiction
        intro hc
        exact hy ⟨hm, by omega, by omega⟩
      · exact .inl hm)
    clear hy
    go_enter Try.func12, Try.ntmps12
    go_wp2_with fail
    refine (starts_no s h l t _ hs hh hl HM.out).mono ?_
    rintro e w1 ⟨rfl, g1⟩
    go_wp2_with fail
    refine (awake14_walk _).mono ?_
    rintro e w3 ⟨rfl, h3⟩
    go_wp2_with fail
    go_ret
    exact ⟨rfl, gtrans (hbel.trans (g1.mono hbel.size)) h3⟩
end Go.Proofs.Ytiolpagilaabkaa
