/- The walk of the statement GridHas of layer 14. -/
import Derived.Test.YtiolpagilaabkaaLGridCloses
namespace Go.Proofs.Ytiolpagilaabkaa
open Go.RowKit Vm Gm
set_option linter.unusedVariables false

theorem asc_mem (T h x : Int) (c : Nat) : x ∈ asc T h c ↔ ∃ j : Nat, j < c ∧ x = T - (j : Int) * h := by
  induction c with
  | zero => simp [asc]
  | succ c ih =>
    rw [asc, List.mem_cons, ih]
    constructor
    · rintro (h1 | ⟨j, hj, h1⟩)
      · exact ⟨c, by omega, h1⟩
      · exact ⟨j, by omega, h1⟩
    · rintro ⟨j, hj, h1⟩
      by_cases e : j = c
      · subst e; exact .inl h1
      · exact .inr ⟨j, by omega, h1⟩
theorem mem_more (l : List Int) (k : Nat) (h : k < l.length) (x : Int) : decide (x ∈ l.take (k + 1)) = (decide (x ∈ l.take k) || (l[k] == x)) := by
  rw [List.take_succ_eq_append_getElem h, Bool.eq_iff_iff, Bool.or_eq_true, decide_eq_true_iff, decide_eq_true_iff, beq_iff_eq, List.mem_append, List.mem_singleton]
  exact ⟨fun h => h.imp id Eq.symm, fun h => h.imp id Eq.symm⟩
theorem starts_mem {s h l t x : Int} (hm : May s h l) (ht : 0 ≤ t) : x ∈ starts s h t ↔ (0 ≤ x ∧ x ≤ t ∧ t - x < s ∧ x % h = 0) := by
  obtain ⟨h1, h2, h3, h4, h5, h6, h7, h8⟩ := hm
  obtain ⟨n, hn⟩ : ∃ n : Nat, s = (n : Int) * h := ⟨(s / h).toNat, by
    have h10 : 0 ≤ s / h := Int.ediv_nonneg (by omega) (by omega)
    rw [Int.toNat_of_nonneg h10]
    exact (Int.ediv_mul_cancel (Int.dvd_of_emod_eq_zero h7)).symm⟩
  have hsn : s / h = (n : Int) := by rw [hn]; exact Int.mul_ediv_cancel _ (by omega)
  obtain ⟨q, hq⟩ : ∃ q : Nat, t / h = (q : Int) := ⟨(t / h).toNat, by rw [Int.toNat_of_nonneg (Int.ediv_nonneg ht (by omega))]⟩
  have hr0 : 0 ≤ t % h := Int.emod_nonneg _ (by omega)
  have hr1 : t % h < h := Int.emod_lt_of_pos _ (by omega)
  have hT : (q : Int) * h = t - t % h := by have := Int.mul_ediv_add_emod t h; rw [Int.mul_comm, hq] at this; omega
  have hc : cnt s h t = min n (q + 1) := by unfold cnt; rw [hsn, hq]; omega
  unfold starts
  rw [hq, hc, asc_mem]
  constructor
  · rintro ⟨j, hj, rfl⟩
    have e : (q : Int) * h - (j : Int) * h = ((q : Int) - j) * h := (Int.sub_mul _ _ _).symm
    have p1 : 0 ≤ ((q : Int) - j) * h := Int.mul_nonneg (by omega) (by omega)
    have p2 : 0 ≤ (j : Int) * h := Int.mul_nonneg (by omega) (by omega)
    have p3 : ((j : Int) + 1) * h ≤ (n : Int) * h := Int.mul_le_mul_of_nonneg_right (by omega) (by omega)
    rw [Int.add_mul] at p3
    refine ⟨by omega, by omega, by omega, ?_⟩
    rw [e]; exact Int.mul_emod_left _ _
  · rintro ⟨x0, x1, x2, x3⟩
    obtain ⟨p, hp⟩ : ∃ p : Nat, x = (p : Int) * h := ⟨(x / h).toNat, by
      have h10 : 0 ≤ x / h := Int.ediv_nonneg x0 (by omega)
      rw [Int.toNat_of_nonneg h10]
      exact (Int.ediv_mul_cancel (Int.dvd_of_emod_eq_zero x3)).symm⟩
    have hpq : p ≤ q := by
      apply Classical.byContradiction
      intro hc
      have : ((q : Int) + 1) * h ≤ (p : Int) * h := Int.mul_le_mul_of_nonneg_right (by omega) (by omega)
      rw [Int.add_mul] at this
      omega
    have hqn : q - p < n := by
      apply Classical.byContradiction
      intro hc
      have : ((n : Int) + p) * h ≤ (q : Int) * h := Int.mul_le_mul_of_nonneg_right (by omega) (by omega)
      rw [Int.add_mul] at this
      omega
    refine ⟨q - p, by omega, ?_⟩
    have e : ((q - p : Nat) : Int) * h = (q : Int) * h - (p : Int) * h := by rw [← Int.sub_mul]; congr 1; omega
    rw [e, hp]; omega

set_option maxRecDepth 100000 in
set_option maxHeartbeats 4000000 in
theorem gridHas_law (s h l t x : Int) (w : World) (hs0 : (Lit.int .i64 s).wf = true) (hh0 : (Lit.int .i64 h).wf = true) (hl0 : (Lit.int .i64 l).wf = true) (ht0 : (Lit.int .i64 t).wf = true) (hx0 : (Lit.int .i64 x).wf = true) :
    Calls Try.prog 11 #[gv s h l, .int .i64 t, .int .i64 x] w fun e w' => e = .returned (.bool true) ∧ Below w.heap.size w w' := by
  have hs := wf_i64 hs0
  have hh := wf_i64 hh0
  have hl := wf_i64 hl0
  have ht := wf_i64 ht0
  have hx := wf_i64 hx0
  clear hs0 hh0 hl0 ht0 hx0
  have Hx := Lib.hid (Box.start w s h l)
  have hbel : Below w.heap.size w (w.alloc (.cells #[.int .i64 s, .int .i64 h, .int .i64 l] 40)) := (Below.refl _ _).alloc (Nat.le_refl _) _
  have hsz : w.heap.size < (w.alloc (.cells #[.int .i64 s, .int .i64 h, .int .i64 l] 40)).heap.size := by simp
  by_cases hy : May s h l ∧ 0 ≤ t ∧ t ≤ 1099511627776
  · obtain ⟨hm, h0, h1⟩ := hy
    have HM := Lib.hid hm
    have H1 := Lib.hid (fun w => starts_yes s h l t w HM.out h0 h1)
    have hmem := Lib.hid (starts_mem (x := x) hm h0)
    obtain ⟨g1, g2, g3, g4, g5, g6, _, _⟩ := hm
    have hn8 : (starts s h t).length ≤ 9223372036854775807 := by
      rw [starts_length]; unfold cnt
      have : s / h ≤ s := Int.ediv_le_self _ (by omega)
      omega
    generalize hST : starts s h t = st at *
    clear hST
    go_enter Try.func11, Try.ntmps11
    go_wp2_with fail
    refine (H1.out _).mono ?_
    rintro e w1 ⟨b1, a1, k1, rfl, o1⟩
    have sl := own_sl o1
    obtain ⟨z0, z1, z2⟩ := Hx.out.below b1 hsz
    have hb2 := hbel.trans (b1.mono hbel.size)
    clear o1 b1
    go_wp2_with fail
    go_loop [9, 10] (fun is i => ∃ k : Nat, k ≤ st.length ∧ i = .int .i64 k ∧ is = .bool (decide (x ∈ st.take k))) (fun _ i => st.length - (intOf i).toNat)
    case atStart => exact ⟨0, by omega, rfl, by simp⟩
    case round =>
      obtain ⟨k, hk, rfl, rfl⟩ := hrel
      by_cases hlt : k < st.length
      · obtain ⟨b, off, rfl, hb, hc⟩ := sl.at (j := k) (by rw [i64s_length]; exact hlt)
        rw [i64s_at _ _ hlt] at hc
        have htk : decide (x ∈ st.take (k + 1)) = (decide (x ∈ st.take k) || (st[k] == x)) := mem_more st k hlt x
        have HT := Lib.hid htk
        clear htk
        generalize st[k] = y at *
        by_cases hin : x ∈ st.take k
        · have hd : decide (x ∈ st.take k) = true := by simpa using hin
          rw [hd]
          rw [hd] at HT
          clear hd hin
          go_wp2
          go_round
          case rel => exact ⟨k + 1, by omega, by go_num, by rw [HT.out]; rfl⟩
          case measure => simp [intOf]; omega
        · have hd : decide (x ∈ st.take k) = false := by simpa using hin
          rw [hd]
          rw [hd] at HT
          clear hd hin
          go_wp2
          go_round
          case rel => exact ⟨k + 1, by omega, by go_num, by rw [HT.out]; rfl⟩
          case measure => simp [intOf]; omega
      · have hall : st.take k = st := List.take_of_length_le (by omega)
        rw [hall]
        by_cases hin : x ∈ st
        · obtain ⟨p0, p1, p2, p3⟩ := hmem.out.1 hin
          have hd : decide (x ∈ st) = true := by simpa using hin
          rw [hd]
          have hb : (x % h == 0) = true := by rw [p3]; rfl
          have htm : x.tmod h = x % h := Int.tmod_eq_emod_of_nonneg p0
          clear hd hin hall p3
          go_wp2_with (go_at_call 31; refine (awake14_walk _).mono ?_; rintro e w3 ⟨rfl, h3⟩)
          all_goals
            go_ret
            exact ⟨rfl, gtrans hb2 h3⟩
        · have hd : decide (x ∈ st) = false := by simpa using hin
          rw [hd]
          have hno : ¬ (0 ≤ x ∧ x ≤ t ∧ t - x < s ∧ x % h = 0) := fun q => hin (hmem.out.2 q)
          clear hd hin hall
          by_cases p0 : 0 ≤ x
          · by_cases p1 : x ≤ t
            · by_cases p2 : t - x < s
              · have p3 : ¬ x % h = 0 := fun q => hno ⟨p0, p1, p2, q⟩
                have hb : (x % h == 0) = false := beq_eq_false_iff_ne.2 p3
                have htm : x.tmod h = x % h := Int.tmod_eq_emod_of_nonneg p0
                clear hno p3
                go_wp2_with (go_at_call 31; refine (awake14_walk _).mono ?_; rintro e w3 ⟨rfl, h3⟩)
                all_goals
                  go_ret
                  exact ⟨rfl, gtrans hb2 h3⟩
              · clear hno
                go_wp2_with (go_at_call 31; refine (awake14_walk _).mono ?_; rintro e w3 ⟨rfl, h3⟩)
                all_goals
                  go_ret
                  exact ⟨rfl, gtrans hb2 h3⟩
            · clear hno
              go_wp2_with (go_at_call 31; refine (awake14_walk _).mono ?_; rintro e w3 ⟨rfl, h3⟩)
              all_goals
                go_ret
                exact ⟨rfl, gtrans hb2 h3⟩
          · clear hno
            go_wp2_with (go_at_call 31; refine (awake14_walk _).mono ?_; rintro e w3 ⟨rfl, h3⟩)
            all_goals
              go_ret
              exact ⟨rfl, gtrans hb2 h3⟩
  · have HM := Lib.hid (show ¬ May s h l ∨ t < 0 ∨ 1099511627776 < t by
      by_cases hm : May s h l
      · right
        apply Classical.byContradiction
        intro hc
        exact hy ⟨hm, by omega, by omega⟩
      · exact .inl hm)
    clear hy
    go_enter Try.func11, Try.ntmps11
    go_wp2_with fail
    refine (starts_no s h l t _ hs hh hl HM.out).mono ?_
    rintro e w1 ⟨rfl, g1⟩
    go_wp2_with fail
    refine (awake14_walk _).mono ?_
    rintro e w3 ⟨rfl, h3⟩
    go_wp2_with fail
    go_ret
    exact ⟨rfl, gtrans (hbel.trans (g1.mono hbel.size)) h3⟩
end Go.Proofs.Ytiolpagilaabkaa
