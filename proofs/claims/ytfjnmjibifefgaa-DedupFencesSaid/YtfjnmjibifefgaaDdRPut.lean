/- The walk of headgateref07.Put (written by gen/rput07.py). -/
import Derived.Test.YtfjnmjibifefgaaDdNote
import Derived.Test.YtfjnmjibifefgaaDdRow
namespace Go.Proofs.Ytfjnmjibifefgaa
open Go.RowKit Vm
set_option linter.unusedVariables false
set_option linter.unusedSimpArgs false

def RpPost (w : World) (D : List Pr) (e : Ending) (w' : World) : Prop := ∃ a c, e = .returned (.slice a D.length c) ∧ Sl w' w'.heap.size a (prCells D) ∧ Below w.heap.size w w'
theorem rp_end {w w5 : World} {D : List Pr} {base n : Nat} {xs : List Value} {a : Option Addr} {c : Nat} (ho : w5.ownsRow base 44 5 (.slice a n c) n xs) (he : xs = prCells D) (hn : n = D.length) (hb : Below w.heap.size w w5) : RpPost w D (.returned (.slice a n c)) w5 := by
  subst he hn
  exact ⟨a, c, rfl, ownN_sl ho, hb⟩
theorem pr_five (a b c d e : Int) : ∀ v ∈ ([.int .i64 a, .int .i64 b, .int .i64 c, .int .i64 d, .int .i64 e] : List Value), v.oneCell' = true := fun v hv => by simp at hv; rcases hv with rfl | rfl | rfl | rfl | rfl <;> rfl
theorem pr_cells_at {w : World} {B b1 o1 : Nat} {l : List Pr} (h : Sl w B (some ⟨b1, o1, none⟩) (prCells l)) {k : Nat} (hk : k < l.length) {y : Pr} (hy : l.getD k pr0 = y) :
    w.cell? ⟨b1, o1 + k * 5, none⟩ = some (.int .i64 y.p) ∧ w.cell? ⟨b1, o1 + k * 5 + 1, none⟩ = some (.int .i64 y.e) ∧ w.cell? ⟨b1, o1 + k * 5 + 2, none⟩ = some (.int .i64 y.s) ∧ w.cell? ⟨b1, o1 + k * 5 + 3, none⟩ = some (.int .i64 y.n) ∧ w.cell? ⟨b1, o1 + k * 5 + 4, none⟩ = some (.int .i64 y.b) := by
  obtain ⟨b2, o2, e, _, hc⟩ := h.pr (by omega)
  injection e with e
  injection e with e1 e2 _
  subst e1 e2 hy
  exact hc k hk
theorem set_facts (l : List Pr) (j : Nat) (x : Pr) (hj : j < l.length) : (l.set j x).length = l.length ∧ (l.set j x).getD j pr0 = x ∧ ∀ k, k ≠ j → (l.set j x).getD k pr0 = l.getD k pr0 := by
  refine ⟨by simp, by simp [List.getD, hj], fun k hk => ?_⟩
  simp [List.getD, List.getElem?_set, Ne.symm hk]
theorem insp_facts (l : List Pr) (j : Nat) (x : Pr) (hj : j ≤ l.length) : (ins_pr l j x).length = l.length + 1 ∧ (ins_pr l j x).getD j pr0 = x ∧ (∀ k, k < j → (ins_pr l j x).getD k pr0 = l.getD k pr0) ∧ ∀ k, j ≤ k → (ins_pr l j x).getD (k + 1) pr0 = l.getD k pr0 := by
  have hl : (l.take j).length = j := by rw [List.length_take]; omega
  unfold ins_pr
  refine ⟨by simp; omega, ?_, fun k hk => ?_, fun k hk => ?_⟩
  · rw [List.append_assoc, List.getD_eq_getElem?_getD, List.getElem?_append_right (by omega), hl]; simp
  · rw [List.append_assoc, List.getD_eq_getElem?_getD, List.getElem?_append_left (by omega), List.getElem?_take]; simp [hk, List.getD]
  · rw [List.append_assoc, List.getD_eq_getElem?_getD, List.getElem?_append_right (by omega), hl]
    rw [show k + 1 - j = (k - j) + 1 from by omega]
    simp only [List.cons_append, List.nil_append, List.getElem?_cons_succ, List.getElem?_drop]
    rw [show j + (k - j) = k from by omega, List.getD_eq_getElem?_getD]
/-- A row, put in its place. -/
def PutIs (l : List Pr) (x : Pr) (D : List Pr) : Prop :=
  ((∀ p, p < l.length → prKey (l.getD p pr0) ≠ x.p) ∧ InsIs l x D) ∨ ∃ k, k < l.length ∧ (∀ p, p < k → prKey (l.getD p pr0) ≠ x.p) ∧ prKey (l.getD k pr0) = x.p ∧ D = l.set k x
theorem getR_absent {l : List Pr} {b : Int} (h : getR prKey l b = none) : ∀ p, p < l.length → prKey (l.getD p pr0) ≠ b := fun p hp => getR_none prKey h _ (getD_mem l pr0 p hp)

set_option maxRecDepth 100000 in
set_option maxHeartbeats 8000000 in
theorem rput_at (l : List Pr) (N : Nat) (a : Option Addr) (c B : Nat) (x : Pr) (w : World) (D : List Pr) (j : Nat) (hj : j < l.length) (h1 : ∀ p, p < j → prKey (l.getD p pr0) ≠ x.p) (h2 : prKey (l.getD j pr0) = x.p) (hD : D = l.set j x) (hN : l.length = N) (hNm : N ≤ 1000) (h : Sl w B a (prCells l)) (hB : B ≤ w.heap.size) :
    Calls Try.prog 45 #[.slice a N c, .agg #[.int .i64 x.p, .int .i64 x.e, .int .i64 x.s, .int .i64 x.n, .int .i64 x.b]] w (RpPost w D) := by
  obtain ⟨i0, hi, hz0, hz1, hz2⟩ := info_parts info_pr
  have hal := balloc w (.cells #[.int .i64 x.p, .int .i64 x.e, .int .i64 x.s, .int .i64 x.n, .int .i64 x.b] 44)
  have hX := Whole.new w 44 #[.int .i64 x.p, .int .i64 x.e, .int .i64 x.s, .int .i64 x.n, .int .i64 x.b]
  have h' := h.below hal hB
  have hB' := Nat.le_trans hB hal.size
  obtain ⟨Y, EE, hY⟩ := rowP_ex l x.p
  have hEE : EE = true := by
    have hg := getR_hit prKey pr0 h1 hj h2
    rcases hY with ⟨_, h⟩ | ⟨h, _⟩
    · exact h
    · rw [hg] at h; cases h
  subst hEE
  obtain ⟨hDl, hDj, hDk⟩ := set_facts l j x hj
  rw [← hD] at hDl hDj hDk
  rw [hN] at hDl hj
  have HDF := Lib.hid (And.intro hDl (And.intro hDj hDk))
  have H1 := Lib.hid h1
  have H2 := Lib.hid h2
  have HNe := Lib.hid hN
  have HC := Lib.hid (rdrow_walk l N a c B x.p (w.alloc (.cells #[.int .i64 x.p, .int .i64 x.e, .int .i64 x.s, .int .i64 x.n, .int .i64 x.b] 44)) Y _ hN (by omega) hY h' hB')
  unfold RdPost at HC
  obtain ⟨⟨e0, e1, e2, e3, e4⟩, _⟩ := hX.fiveP
  clear hN h hY h1 h2 hD hDl hDj hDk
  go_enter Try.func45, Try.ntmps45
  go_wp2_with fail
  refine HC.out.mono ?_
  rintro e w1 ⟨rfl, g1⟩
  clear e0 e1 e2 e3 e4
  have X1 := hX.keep g1
  have hal2 := balloc w1 (.cells #[.int .i64 Y.p, .int .i64 Y.e, .int .i64 Y.s, .int .i64 Y.n, .int .i64 Y.b] 44)
  have X0 := X1.keep hal2
  have s0 := (h'.below g1 hB').below hal2 (Nat.le_trans hB' g1.size)
  have b0 := gtrans (gtrans hal g1) hal2
  have hz01 : w1.heap.size < (w1.alloc (.cells #[.int .i64 Y.p, .int .i64 Y.e, .int .i64 Y.s, .int .i64 Y.n, .int .i64 Y.b] 44)).heap.size := by simp
  have hBz : B ≤ w1.heap.size := Nat.le_trans hB' g1.size
  go_upto_region 4 with fail
  obtain ⟨w0, hw0⟩ : ∃ w0, w0 = w1.alloc (.cells #[.int .i64 Y.p, .int .i64 Y.e, .int .i64 Y.s, .int .i64 Y.n, .int .i64 Y.b] 44) := ⟨_, rfl⟩
  rw [← hw0] at X0 s0 b0 hz01 ⊢
  have hB0 : B ≤ w0.heap.size := by omega
  clear hw0 hal2 X1 g1 hX hal h' hB' HC
  have HX0 := Lib.hid X0
  have HS0 := Lib.hid s0
  have hxl := X0.lt
  clear X0 s0
  go_wp2_with fail
  go_loopw [7, 8, 9] (fun O Q I wr => ∃ (k : Nat) (a3 : Option Addr) (c3 : Nat), k ≤ N ∧ I = .int .i64 k ∧ O = .slice a3 k c3 ∧ ((k ≤ j ∧ Q = .bool false) ∨ (j < k ∧ Q = .bool true)) ∧ wr.ownsRow w0.heap.size 44 5 (.slice a3 k c3) k (prCells (D.take k)) ∧ Below w0.heap.size w0 wr) (fun _ _ I _ => N - (intOf I).toNat)
  case atStart => exact ⟨0, none, 0, by omega, rfl, rfl, .inl ⟨by omega, rfl⟩, World.ownsRow_nil _ _ _ _, Below.refl _ _⟩
  case round =>
    obtain ⟨k, a3, c3, hk, rfl, rfl, hQ, hown, hb⟩ := hrel
    by_cases hkN : k < N
    · have hil : k < l.length := by rw [HNe.out]; exact hkN
      have hkN2 : (k : Int) < (N : Int) := by omega
      obtain ⟨b1, o1, rfl, hb1, _⟩ := HS0.out.pr (by omega)
      obtain ⟨y, hy⟩ : ∃ y, l.getD k pr0 = y := ⟨_, rfl⟩
      have HR := Lib.hid (fun w7 (h7 : Below w0.heap.size w0 w7) => pr_cells_at (HS0.out.below h7 hB0) hil hy)
      have HXX := Lib.hid (fun w7 (h7 : Below w0.heap.size w0 w7) => (HX0.out.keep h7).fiveP)
      have HY := Lib.hid hy
      clear hy
      have hbz := hb.size
      obtain ⟨⟨e0, e1, e2, e3, e4⟩, hxl2⟩ := HXX.out _ hb
      obtain ⟨r0, r1, r2, r3, r4⟩ := HR.out _ hb
      have hb1z : b1 < wr.heap.size := by omega
      have htk := Lib.hid (take_get D pr0 k (by rw [HDF.out.1]; exact hkN))

      rcases hQ with ⟨hkj0, rfl⟩ | ⟨hkj, rfl⟩
      · rcases Nat.lt_or_ge k j with hkj | hkj1
        · have hd : (y.p == x.p) = false := by
            have := H1.out k hkj; rw [HY.out] at this; exact beq_eq_false_iff_ne.2 this
          go_wp2_with fail
          go_quiet (fail)
          have ownq := ownN_drewN hown nq
          have hbq := hb.trans (below_drewN _ wr nq)
          generalize wr.drewN nq = wq at *
          clear e0 e1 e2 e3 e4 r0 r1 r2 r3 r4 hbz hb1z hxl2
          have hbz := hbq.size
          have hb1z : b1 < wq.heap.size := by omega
          obtain ⟨⟨e0, e1, e2, e3, e4⟩, hxl2⟩ := HXX.out _ hbq
          obtain ⟨r0, r1, r2, r3, r4⟩ := HR.out _ hbq
          go_wp2_with fail
          go_quiet (fail)
          have ownp := ownN_drewN ownq nq
          have hbp := hbq.trans (below_drewN _ wq nq)
          generalize wq.drewN nq = wp at *
          clear e0 e1 e2 e3 e4 r0 r1 r2 r3 r4 hbz hb1z hxl2
          have hbz := hbp.size
          have hb1z : b1 < wp.heap.size := by omega
          obtain ⟨⟨e0, e1, e2, e3, e4⟩, hxl2⟩ := HXX.out _ hbp
          obtain ⟨r0, r1, r2, r3, r4⟩ := HR.out _ hbp
          have HO1 := Lib.hid (ownp.alloc (.cells #[.int .i64 y.p, .int .i64 y.e, .int .i64 y.s, .int .i64 y.n, .int .i64 y.b] 44))
          have HB1 := Lib.hid (hbp.alloc hbz (.cells #[.int .i64 y.p, .int .i64 y.e, .int .i64 y.s, .int .i64 y.n, .int .i64 y.b] 44))
          go_wp2_with (at_builtin; refine wp_app rfl _ _ 22 rfl w0.heap.size 44 i0 (.agg #[.int .i64 0, .int .i64 0, .int .i64 0, .int .i64 0, .int .i64 0]) 5 40 Try.underlying22 hi hz0 hz1 hz2 rfl (by decide) _ _ _ rfl HO1.out _ _ _ rfl [.int .i64 y.p, .int .i64 y.e, .int .i64 y.s, .int .i64 y.n, .int .i64 y.b] _ w0 rfl (sl_fresh _ [.int .i64 y.p, .int .i64 y.e, .int .i64 y.s, .int .i64 y.n, .int .i64 y.b] 44) (fun h => by cases h) (pr_five _ _ _ _ _) ?c1a ?c1b ?c1c HB1.out ?_)
          case c1a => unfold maxLen; omega
          case c1b => omega
          case c1c => simp; omega
          intro aw4 cw4 w4 own4 hb4
          clear ownp hbp
          clear e0 e1 e2 e3 e4 r0 r1 r2 r3 r4
          have own5 : w4.ownsRow w0.heap.size 44 5 (.slice aw4 (k + 1) cw4) (k + 1) (prCells (D.take (k + 1))) := by
            rw [htk.out, HDF.out.2.2 k (by omega), HY.out, prCells_snoc]; exact own4
          clear own4
          go_wp2_with fail
          go_roundw
          case rel => exact ⟨k + 1, aw4, cw4, by omega, by go_num, rfl, .inl ⟨by omega, rfl⟩, own5, hb4⟩
          case measure => simp [intOf]; omega
        · have hkj : k = j := by omega
          have hd : (y.p == x.p) = true := by
            have := H2.out; rw [← hkj, HY.out] at this; unfold prKey at this; rw [this]; exact beq_self_eq_true _
          have HKJ := Lib.hid hkj
          clear hkj hkj0 hkj1
          go_wp2_with fail
          go_quiet (fail)
          have ownq := ownN_drewN hown nq
          have hbq := hb.trans (below_drewN _ wr nq)
          generalize wr.drewN nq = wq at *
          clear e0 e1 e2 e3 e4 r0 r1 r2 r3 r4 hbz hb1z hxl2
          have hbz := hbq.size
          have hb1z : b1 < wq.heap.size := by omega
          obtain ⟨⟨e0, e1, e2, e3, e4⟩, hxl2⟩ := HXX.out _ hbq
          obtain ⟨r0, r1, r2, r3, r4⟩ := HR.out _ hbq
          have HO2 := Lib.hid (ownq.alloc (.cells #[.int .i64 x.p, .int .i64 x.e, .int .i64 x.s, .int .i64 x.n, .int .i64 x.b] 44))
          have HB2 := Lib.hid (hbq.alloc hbz (.cells #[.int .i64 x.p, .int .i64 x.e, .int .i64 x.s, .int .i64 x.n, .int .i64 x.b] 44))
          go_wp2_with (at_builtin; refine wp_app rfl _ _ 22 rfl w0.heap.size 44 i0 (.agg #[.int .i64 0, .int .i64 0, .int .i64 0, .int .i64 0, .int .i64 0]) 5 40 Try.underlying22 hi hz0 hz1 hz2 rfl (by decide) _ _ _ rfl HO2.out _ _ _ rfl [.int .i64 x.p, .int .i64 x.e, .int .i64 x.s, .int .i64 x.n, .int .i64 x.b] _ w0 rfl (sl_fresh _ [.int .i64 x.p, .int .i64 x.e, .int .i64 x.s, .int .i64 x.n, .int .i64 x.b] 44) (fun h => by cases h) (pr_five _ _ _ _ _) ?c2a ?c2b ?c2c HB2.out ?_)
          case c2a => unfold maxLen; omega
          case c2b => omega
          case c2c => simp; omega
          intro aw4 cw4 w4 own4 hb4
          clear ownq hbq
          clear e0 e1 e2 e3 e4 r0 r1 r2 r3 r4
          have own5 : w4.ownsRow w0.heap.size 44 5 (.slice aw4 (k + 1) cw4) (k + 1) (prCells (D.take (k + 1))) := by
            rw [htk.out, show D.getD k pr0 = x from by rw [HKJ.out]; exact HDF.out.2.1, prCells_snoc]; exact own4
          clear own4
          go_wp2_with fail
          go_roundw
          case rel => exact ⟨k + 1, aw4, cw4, by omega, by go_num, rfl, .inr ⟨by have := HKJ.out; omega, rfl⟩, own5, hb4⟩
          case measure => simp [intOf]; omega
      · go_wp2_with fail
        go_quiet (fail)
        have ownq := ownN_drewN hown nq
        have hbq := hb.trans (below_drewN _ wr nq)
        generalize wr.drewN nq = wq at *
        clear e0 e1 e2 e3 e4 r0 r1 r2 r3 r4 hbz hb1z hxl2
        have hbz := hbq.size
        have hb1z : b1 < wq.heap.size := by omega
        obtain ⟨⟨e0, e1, e2, e3, e4⟩, hxl2⟩ := HXX.out _ hbq
        obtain ⟨r0, r1, r2, r3, r4⟩ := HR.out _ hbq
        go_wp2_with fail
        go_quiet (fail)
        have ownp := ownN_drewN ownq nq
        have hbp := hbq.trans (below_drewN _ wq nq)
        generalize wq.drewN nq = wp at *
        clear e0 e1 e2 e3 e4 r0 r1 r2 r3 r4 hbz hb1z hxl2
        have hbz := hbp.size
        have hb1z : b1 < wp.heap.size := by omega
        obtain ⟨⟨e0, e1, e2, e3, e4⟩, hxl2⟩ := HXX.out _ hbp
        obtain ⟨r0, r1, r2, r3, r4⟩ := HR.out _ hbp
        have HO3 := Lib.hid (ownp.alloc (.cells #[.int .i64 y.p, .int .i64 y.e, .int .i64 y.s, .int .i64 y.n, .int .i64 y.b] 44))
        have HB3 := Lib.hid (hbp.alloc hbz (.cells #[.int .i64 y.p, .int .i64 y.e, .int .i64 y.s, .int .i64 y.n, .int .i64 y.b] 44))
        go_wp2_with (at_builtin; refine wp_app rfl _ _ 22 rfl w0.heap.size 44 i0 (.agg #[.int .i64 0, .int .i64 0, .int .i64 0, .int .i64 0, .int .i64 0]) 5 40 Try.underlying22 hi hz0 hz1 hz2 rfl (by decide) _ _ _ rfl HO3.out _ _ _ rfl [.int .i64 y.p, .int .i64 y.e, .int .i64 y.s, .int .i64 y.n, .int .i64 y.b] _ w0 rfl (sl_fresh _ [.int .i64 y.p, .int .i64 y.e, .int .i64 y.s, .int .i64 y.n, .int .i64 y.b] 44) (fun h => by cases h) (pr_five _ _ _ _ _) ?c3a ?c3b ?c3c HB3.out ?_)
        case c3a => unfold maxLen; omega
        case c3b => omega
        case c3c => simp; omega
        intro aw4 cw4 w4 own4 hb4
        clear ownp hbp
        clear e0 e1 e2 e3 e4 r0 r1 r2 r3 r4
        have own5 : w4.ownsRow w0.heap.size 44 5 (.slice aw4 (k + 1) cw4) (k + 1) (prCells (D.take (k + 1))) := by
          rw [htk.out, HDF.out.2.2 k (by omega), HY.out, prCells_snoc]; exact own4
        clear own4
        go_wp2_with fail
        go_roundw
        case rel => exact ⟨k + 1, aw4, cw4, by omega, by go_num, rfl, .inr ⟨by omega, rfl⟩, own5, hb4⟩
        case measure => simp [intOf]; omega
    · obtain rfl : k = N := by omega
      rcases hQ with ⟨h1, _⟩ | ⟨h1, rfl⟩
      · omega
      · go_wp2_with fail
        go_ret
        exact rp_end hown (by rw [List.take_of_length_le (by rw [HDF.out.1]; exact Nat.le_refl _)]) HDF.out.1.symm (b0.trans (hb.mono (by omega)))
set_option maxRecDepth 100000 in
set_option maxHeartbeats 8000000 in
theorem rput_ins (l : List Pr) (N : Nat) (a : Option Addr) (c B : Nat) (x : Pr) (w : World) (D : List Pr) (j : Nat) (h0 : ∀ p, p < l.length → prKey (l.getD p pr0) ≠ x.p) (hj : j < l.length) (h1 : ∀ p, p < j → prKey (l.getD p pr0) ≤ x.p) (h2 : x.p < prKey (l.getD j pr0)) (hD : D = ins_pr l j x) (hN : l.length = N) (hNm : N ≤ 1000) (h : Sl w B a (prCells l)) (hB : B ≤ w.heap.size) :
    Calls Try.prog 45 #[.slice a N c, .agg #[.int .i64 x.p, .int .i64 x.e, .int .i64 x.s, .int .i64 x.n, .int .i64 x.b]] w (RpPost w D) := by
  obtain ⟨i0, hi, hz0, hz1, hz2⟩ := info_parts info_pr
  have hal := balloc w (.cells #[.int .i64 x.p, .int .i64 x.e, .int .i64 x.s, .int .i64 x.n, .int .i64 x.b] 44)
  have hX := Whole.new w 44 #[.int .i64 x.p, .int .i64 x.e, .int .i64 x.s, .int .i64 x.n, .int .i64 x.b]
  have h' := h.below hal hB
  have hB' := Nat.le_trans hB hal.size
  obtain ⟨Y, EE, hY⟩ := rowP_ex l x.p
  have hEE : EE = false := by
    rcases hY with ⟨h, _⟩ | ⟨_, _, h⟩
    · rw [getR_miss prKey pr0 h0] at h; cases h
    · exact h
  subst hEE
  obtain ⟨hDl, hDj, hDk, hDm⟩ := insp_facts l j x (Nat.le_of_lt hj)
  rw [← hD] at hDl hDj hDk hDm
  rw [hN] at hDl hj
  have HDF := Lib.hid (And.intro hDl (And.intro hDj (And.intro hDk hDm)))
  have H1 := Lib.hid h1
  have H2 := Lib.hid h2
  have HNe := Lib.hid hN
  have HC := Lib.hid (rdrow_walk l N a c B x.p (w.alloc (.cells #[.int .i64 x.p, .int .i64 x.e, .int .i64 x.s, .int .i64 x.n, .int .i64 x.b] 44)) Y _ hN (by omega) hY h' hB')
  unfold RdPost at HC
  obtain ⟨⟨e0, e1, e2, e3, e4⟩, _⟩ := hX.fiveP
  clear hN h hY h0 h1 h2 hD hDl hDj hDk hDm
  go_enter Try.func45, Try.ntmps45
  go_wp2_with fail
  refine HC.out.mono ?_
  rintro e w1 ⟨rfl, g1⟩
  clear e0 e1 e2 e3 e4
  have X1 := hX.keep g1
  have hal2 := balloc w1 (.cells #[.int .i64 Y.p, .int .i64 Y.e, .int .i64 Y.s, .int .i64 Y.n, .int .i64 Y.b] 44)
  have X0 := X1.keep hal2
  have s0 := (h'.below g1 hB').below hal2 (Nat.le_trans hB' g1.size)
  have b0 := gtrans (gtrans hal g1) hal2
  have hz01 : w1.heap.size < (w1.alloc (.cells #[.int .i64 Y.p, .int .i64 Y.e, .int .i64 Y.s, .int .i64 Y.n, .int .i64 Y.b] 44)).heap.size := by simp
  have hBz : B ≤ w1.heap.size := Nat.le_trans hB' g1.size
  go_upto_region 4 with fail
  obtain ⟨w0, hw0⟩ : ∃ w0, w0 = w1.alloc (.cells #[.int .i64 Y.p, .int .i64 Y.e, .int .i64 Y.s, .int .i64 Y.n, .int .i64 Y.b] 44) := ⟨_, rfl⟩
  rw [← hw0] at X0 s0 b0 hz01 ⊢
  have hB0 : B ≤ w0.heap.size := by omega
  clear hw0 hal2 X1 g1 hX hal h' hB' HC
  have HX0 := Lib.hid X0
  have HS0 := Lib.hid s0
  have hxl := X0.lt
  clear X0 s0
  go_wp2_with fail
  go_loopw [7, 8, 9] (fun O Q I wr => ∃ (k : Nat) (a3 : Option Addr) (c3 : Nat) (M : Nat), k ≤ N ∧ I = .int .i64 k ∧ O = .slice a3 M c3 ∧ ((k ≤ j ∧ Q = .bool false ∧ M = k) ∨ (j < k ∧ Q = .bool true ∧ M = k + 1)) ∧ wr.ownsRow w0.heap.size 44 5 (.slice a3 M c3) M (prCells (D.take M)) ∧ Below w0.heap.size w0 wr) (fun _ _ I _ => N - (intOf I).toNat)
  case atStart => exact ⟨0, none, 0, 0, by omega, rfl, rfl, .inl ⟨by omega, rfl, rfl⟩, World.ownsRow_nil _ _ _ _, Below.refl _ _⟩
  case round =>
    obtain ⟨k, a3, c3, M, hk, rfl, rfl, hQ, hown, hb⟩ := hrel
    by_cases hkN : k < N
    · have hil : k < l.length := by rw [HNe.out]; exact hkN
      have hkN2 : (k : Int) < (N : Int) := by omega
      obtain ⟨b1, o1, rfl, hb1, _⟩ := HS0.out.pr (by omega)
      obtain ⟨y, hy⟩ : ∃ y, l.getD k pr0 = y := ⟨_, rfl⟩
      have HR := Lib.hid (fun w7 (h7 : Below w0.heap.size w0 w7) => pr_cells_at (HS0.out.below h7 hB0) hil hy)
      have HXX := Lib.hid (fun w7 (h7 : Below w0.heap.size w0 w7) => (HX0.out.keep h7).fiveP)
      have HY := Lib.hid hy
      clear hy
      have hbz := hb.size
      obtain ⟨⟨e0, e1, e2, e3, e4⟩, hxl2⟩ := HXX.out _ hb
      obtain ⟨r0, r1, r2, r3, r4⟩ := HR.out _ hb
      have hb1z : b1 < wr.heap.size := by omega
      have htk := Lib.hid (take_get D pr0 k (by rw [HDF.out.1]; omega))
      have htk2 := Lib.hid (take_get D pr0 (k + 1) (by rw [HDF.out.1]; omega))
      rcases hQ with ⟨hkj0, rfl, hM⟩ | ⟨hkj, rfl, hM⟩
      · obtain rfl := hM
        rcases Nat.lt_or_ge M j with hkj | hkj1
        · have hd : decide (x.p < y.p) = false := by
            have := H1.out M hkj; rw [HY.out] at this; unfold prKey at this; exact decide_eq_false (by omega)
          go_wp2_with fail
          go_quiet (fail)
          have ownq := ownN_drewN hown nq
          have hbq := hb.trans (below_drewN _ wr nq)
          generalize wr.drewN nq = wq at *
          clear e0 e1 e2 e3 e4 r0 r1 r2 r3 r4 hbz hb1z hxl2
          have hbz := hbq.size
          have hb1z : b1 < wq.heap.size := by omega
          obtain ⟨⟨e0, e1, e2, e3, e4⟩, hxl2⟩ := HXX.out _ hbq
          obtain ⟨r0, r1, r2, r3, r4⟩ := HR.out _ hbq
          go_wp2_with fail
          go_quiet (fail)
          have ownp := ownN_drewN ownq nq
          have hbp := hbq.trans (below_drewN _ wq nq)
          generalize wq.drewN nq = wp at *
          clear e0 e1 e2 e3 e4 r0 r1 r2 r3 r4 hbz hb1z hxl2
          have hbz := hbp.size
          have hb1z : b1 < wp.heap.size := by omega
          obtain ⟨⟨e0, e1, e2, e3, e4⟩, hxl2⟩ := HXX.out _ hbp
          obtain ⟨r0, r1, r2, r3, r4⟩ := HR.out _ hbp
          have HO4 := Lib.hid (ownp.alloc (.cells #[.int .i64 y.p, .int .i64 y.e, .int .i64 y.s, .int .i64 y.n, .int .i64 y.b] 44))
          have HB4 := Lib.hid (hbp.alloc hbz (.cells #[.int .i64 y.p, .int .i64 y.e, .int .i64 y.s, .int .i64 y.n, .int .i64 y.b] 44))
          go_wp2_with (at_builtin; refine wp_app rfl _ _ 22 rfl w0.heap.size 44 i0 (.agg #[.int .i64 0, .int .i64 0, .int .i64 0, .int .i64 0, .int .i64 0]) 5 40 Try.underlying22 hi hz0 hz1 hz2 rfl (by decide) _ _ _ rfl HO4.out _ _ _ rfl [.int .i64 y.p, .int .i64 y.e, .int .i64 y.s, .int .i64 y.n, .int .i64 y.b] _ w0 rfl (sl_fresh _ [.int .i64 y.p, .int .i64 y.e, .int .i64 y.s, .int .i64 y.n, .int .i64 y.b] 44) (fun h => by cases h) (pr_five _ _ _ _ _) ?c4a ?c4b ?c4c HB4.out ?_)
          case c4a => unfold maxLen; omega
          case c4b => omega
          case c4c => simp; omega
          intro aw4 cw4 w4 own4 hb4
          clear ownp hbp
          clear e0 e1 e2 e3 e4 r0 r1 r2 r3 r4
          have own5w4 : w4.ownsRow w0.heap.size 44 5 (.slice aw4 (M + 1) cw4) (M + 1) (prCells (D.take (M + 1))) := by
            rw [htk.out, HDF.out.2.2.1 M (by omega), HY.out, prCells_snoc]; exact own4
          clear own4
          go_wp2_with fail
          go_roundw
          case rel => exact ⟨M + 1, aw4, cw4, M + 1, by omega, by go_num, rfl, .inl ⟨by omega, rfl, rfl⟩, own5w4, hb4⟩
          case measure => simp [intOf]; omega
        · have hkj : M = j := by omega
          have hd : decide (x.p < y.p) = true := by
            have := H2.out; rw [← hkj, HY.out] at this; exact decide_eq_true this
          have HKJ := Lib.hid hkj
          clear hkj hkj0 hkj1
          go_wp2_with fail
          go_quiet (fail)
          have ownq := ownN_drewN hown nq
          have hbq := hb.trans (below_drewN _ wr nq)
          generalize wr.drewN nq = wq at *
          clear e0 e1 e2 e3 e4 r0 r1 r2 r3 r4 hbz hb1z hxl2
          have hbz := hbq.size
          have hb1z : b1 < wq.heap.size := by omega
          obtain ⟨⟨e0, e1, e2, e3, e4⟩, hxl2⟩ := HXX.out _ hbq
          obtain ⟨r0, r1, r2, r3, r4⟩ := HR.out _ hbq
          go_wp2_with fail
          go_quiet (fail)
          have ownp := ownN_drewN ownq nq
          have hbp := hbq.trans (below_drewN _ wq nq)
          generalize wq.drewN nq = wp at *
          clear e0 e1 e2 e3 e4 r0 r1 r2 r3 r4 hbz hb1z hxl2
          have hbz := hbp.size
          have hb1z : b1 < wp.heap.size := by omega
          obtain ⟨⟨e0, e1, e2, e3, e4⟩, hxl2⟩ := HXX.out _ hbp
          obtain ⟨r0, r1, r2, r3, r4⟩ := HR.out _ hbp
          have HO5 := Lib.hid (ownp.alloc (.cells #[.int .i64 x.p, .int .i64 x.e, .int .i64 x.s, .int .i64 x.n, .int .i64 x.b] 44))
          have HB5 := Lib.hid (hbp.alloc hbz (.cells #[.int .i64 x.p, .int .i64 x.e, .int .i64 x.s, .int .i64 x.n, .int .i64 x.b] 44))
          go_wp2_with (at_builtin; refine wp_app rfl _ _ 22 rfl w0.heap.size 44 i0 (.agg #[.int .i64 0, .int .i64 0, .int .i64 0, .int .i64 0, .int .i64 0]) 5 40 Try.underlying22 hi hz0 hz1 hz2 rfl (by decide) _ _ _ rfl HO5.out _ _ _ rfl [.int .i64 x.p, .int .i64 x.e, .int .i64 x.s, .int .i64 x.n, .int .i64 x.b] _ w0 rfl (sl_fresh _ [.int .i64 x.p, .int .i64 x.e, .int .i64 x.s, .int .i64 x.n, .int .i64 x.b] 44) (fun h => by cases h) (pr_five _ _ _ _ _) ?c5a ?c5b ?c5c HB5.out ?_)
          case c5a => unfold maxLen; omega
          case c5b => omega
          case c5c => simp; omega
          intro aw3 cw3 w3 own3 hb3
          clear ownp hbp
          clear e0 e1 e2 e3 e4 r0 r1 r2 r3 r4 hbz hb1z hxl2
          have hbz := hb3.size
          have hb1z : b1 < w3.heap.size := by omega
          obtain ⟨⟨e0, e1, e2, e3, e4⟩, hxl2⟩ := HXX.out _ hb3
          obtain ⟨r0, r1, r2, r3, r4⟩ := HR.out _ hb3
          have own5w3 : w3.ownsRow w0.heap.size 44 5 (.slice aw3 (M + 1) cw3) (M + 1) (prCells (D.take (M + 1))) := by
            rw [htk.out, show D.getD M pr0 = x from by rw [HKJ.out]; exact HDF.out.2.1, prCells_snoc]; exact own3
          clear own3
          have HO6 := Lib.hid (own5w3.alloc (.cells #[.int .i64 y.p, .int .i64 y.e, .int .i64 y.s, .int .i64 y.n, .int .i64 y.b] 44))
          have HB6 := Lib.hid (hb3.alloc hbz (.cells #[.int .i64 y.p, .int .i64 y.e, .int .i64 y.s, .int .i64 y.n, .int .i64 y.b] 44))
          go_wp2_with (at_builtin; refine wp_app rfl _ _ 22 rfl w0.heap.size 44 i0 (.agg #[.int .i64 0, .int .i64 0, .int .i64 0, .int .i64 0, .int .i64 0]) 5 40 Try.underlying22 hi hz0 hz1 hz2 rfl (by decide) _ _ _ rfl HO6.out _ _ _ rfl [.int .i64 y.p, .int .i64 y.e, .int .i64 y.s, .int .i64 y.n, .int .i64 y.b] _ w0 rfl (sl_fresh _ [.int .i64 y.p, .int .i64 y.e, .int .i64 y.s, .int .i64 y.n, .int .i64 y.b] 44) (fun h => by cases h) (pr_five _ _ _ _ _) ?c6a ?c6b ?c6c HB6.out ?_)
          case c6a => unfold maxLen; omega
          case c6b => omega
          case c6c => simp; omega
          intro aw4 cw4 w4 own4 hb4
          clear own5w3 hb3
          clear e0 e1 e2 e3 e4 r0 r1 r2 r3 r4
          have own5w4 : w4.ownsRow w0.heap.size 44 5 (.slice aw4 (M + 1 + 1) cw4) (M + 1 + 1) (prCells (D.take (M + 1 + 1))) := by
            rw [htk2.out, HDF.out.2.2.2 M (by have := HKJ.out; omega), HY.out, prCells_snoc]; exact own4
          clear own4
          go_wp2_with fail
          go_roundw
          case rel => exact ⟨M + 1, aw4, cw4, M + 1 + 1, by omega, by go_num, rfl, .inr ⟨by have := HKJ.out; omega, rfl, rfl⟩, own5w4, hb4⟩
          case measure => simp [intOf]; omega
      · obtain rfl := hM
        go_wp2_with fail
        go_quiet (fail)
        have ownq := ownN_drewN hown nq
        have hbq := hb.trans (below_drewN _ wr nq)
        generalize wr.drewN nq = wq at *
        clear e0 e1 e2 e3 e4 r0 r1 r2 r3 r4 hbz hb1z hxl2
        have hbz := hbq.size
        have hb1z : b1 < wq.heap.size := by omega
        obtain ⟨⟨e0, e1, e2, e3, e4⟩, hxl2⟩ := HXX.out _ hbq
        obtain ⟨r0, r1, r2, r3, r4⟩ := HR.out _ hbq
        go_wp2_with fail
        go_quiet (fail)
        have ownp := ownN_drewN ownq nq
        have hbp := hbq.trans (below_drewN _ wq nq)
        generalize wq.drewN nq = wp at *
        clear e0 e1 e2 e3 e4 r0 r1 r2 r3 r4 hbz hb1z hxl2
        have hbz := hbp.size
        have hb1z : b1 < wp.heap.size := by omega
        obtain ⟨⟨e0, e1, e2, e3, e4⟩, hxl2⟩ := HXX.out _ hbp
        obtain ⟨r0, r1, r2, r3, r4⟩ := HR.out _ hbp
        have HO7 := Lib.hid (ownp.alloc (.cells #[.int .i64 y.p, .int .i64 y.e, .int .i64 y.s, .int .i64 y.n, .int .i64 y.b] 44))
        have HB7 := Lib.hid (hbp.alloc hbz (.cells #[.int .i64 y.p, .int .i64 y.e, .int .i64 y.s, .int .i64 y.n, .int .i64 y.b] 44))
        go_wp2_with (at_builtin; refine wp_app rfl _ _ 22 rfl w0.heap.size 44 i0 (.agg #[.int .i64 0, .int .i64 0, .int .i64 0, .int .i64 0, .int .i64 0]) 5 40 Try.underlying22 hi hz0 hz1 hz2 rfl (by decide) _ _ _ rfl HO7.out _ _ _ rfl [.int .i64 y.p, .int .i64 y.e, .int .i64 y.s, .int .i64 y.n, .int .i64 y.b] _ w0 rfl (sl_fresh _ [.int .i64 y.p, .int .i64 y.e, .int .i64 y.s, .int .i64 y.n, .int .i64 y.b] 44) (fun h => by cases h) (pr_five _ _ _ _ _) ?c7a ?c7b ?c7c HB7.out ?_)
        case c7a => unfold maxLen; omega
        case c7b => omega
        case c7c => simp; omega
        intro aw4 cw4 w4 own4 hb4
        clear ownp hbp
        clear e0 e1 e2 e3 e4 r0 r1 r2 r3 r4
        have own5w4 : w4.ownsRow w0.heap.size 44 5 (.slice aw4 (k + 1 + 1) cw4) (k + 1 + 1) (prCells (D.take (k + 1 + 1))) := by
          rw [htk2.out, HDF.out.2.2.2 k (by omega), HY.out, prCells_snoc]; exact own4
        clear own4
        go_wp2_with fail
        go_roundw
        case rel => exact ⟨k + 1, aw4, cw4, k + 1 + 1, by omega, by go_num, rfl, .inr ⟨by omega, rfl, rfl⟩, own5w4, hb4⟩
        case measure => simp [intOf]; omega
    · obtain rfl : k = N := by omega
      rcases hQ with ⟨h1, _⟩ | ⟨h1, rfl, rfl⟩
      · omega
      · go_wp2_with fail
        go_ret
        exact rp_end hown (by rw [List.take_of_length_le (by rw [HDF.out.1]; exact Nat.le_refl _)]) HDF.out.1.symm (b0.trans (hb.mono (by omega)))
set_option maxRecDepth 100000 in
set_option maxHeartbeats 8000000 in
theorem rput_end (l : List Pr) (N : Nat) (a : Option Addr) (c B : Nat) (x : Pr) (w : World) (D : List Pr) (h0 : ∀ p, p < l.length → prKey (l.getD p pr0) ≠ x.p) (h1 : ∀ p, p < l.length → prKey (l.getD p pr0) ≤ x.p) (hD : D = l ++ [x]) (hN : l.length = N) (hNm : N ≤ 1000) (h : Sl w B a (prCells l)) (hB : B ≤ w.heap.size) :
    Calls Try.prog 45 #[.slice a N c, .agg #[.int .i64 x.p, .int .i64 x.e, .int .i64 x.s, .int .i64 x.n, .int .i64 x.b]] w (RpPost w D) := by
  obtain ⟨i0, hi, hz0, hz1, hz2⟩ := info_parts info_pr
  have hal := balloc w (.cells #[.int .i64 x.p, .int .i64 x.e, .int .i64 x.s, .int .i64 x.n, .int .i64 x.b] 44)
  have hX := Whole.new w 44 #[.int .i64 x.p, .int .i64 x.e, .int .i64 x.s, .int .i64 x.n, .int .i64 x.b]
  have h' := h.below hal hB
  have hB' := Nat.le_trans hB hal.size
  obtain ⟨Y, EE, hY⟩ := rowP_ex l x.p
  have hEE : EE = false := by
    rcases hY with ⟨h, _⟩ | ⟨_, _, h⟩
    · rw [getR_miss prKey pr0 h0] at h; cases h
    · exact h
  subst hEE
  have HD := Lib.hid hD
  have H1 := Lib.hid h1
  have HNe := Lib.hid hN
  have HC := Lib.hid (rdrow_walk l N a c B x.p (w.alloc (.cells #[.int .i64 x.p, .int .i64 x.e, .int .i64 x.s, .int .i64 x.n, .int .i64 x.b] 44)) Y _ hN (by omega) hY h' hB')
  unfold RdPost at HC
  obtain ⟨⟨e0, e1, e2, e3, e4⟩, _⟩ := hX.fiveP
  clear hN h hY h0 h1 hD
  go_enter Try.func45, Try.ntmps45
  go_wp2_with fail
  refine HC.out.mono ?_
  rintro e w1 ⟨rfl, g1⟩
  clear e0 e1 e2 e3 e4
  have X1 := hX.keep g1
  have hal2 := balloc w1 (.cells #[.int .i64 Y.p, .int .i64 Y.e, .int .i64 Y.s, .int .i64 Y.n, .int .i64 Y.b] 44)
  have X0 := X1.keep hal2
  have s0 := (h'.below g1 hB').below hal2 (Nat.le_trans hB' g1.size)
  have b0 := gtrans (gtrans hal g1) hal2
  have hz01 : w1.heap.size < (w1.alloc (.cells #[.int .i64 Y.p, .int .i64 Y.e, .int .i64 Y.s, .int .i64 Y.n, .int .i64 Y.b] 44)).heap.size := by simp
  have hBz : B ≤ w1.heap.size := Nat.le_trans hB' g1.size
  go_upto_region 4 with fail
  obtain ⟨w0, hw0⟩ : ∃ w0, w0 = w1.alloc (.cells #[.int .i64 Y.p, .int .i64 Y.e, .int .i64 Y.s, .int .i64 Y.n, .int .i64 Y.b] 44) := ⟨_, rfl⟩
  rw [← hw0] at X0 s0 b0 hz01 ⊢
  have hB0 : B ≤ w0.heap.size := by omega
  clear hw0 hal2 X1 g1 hX hal h' hB' HC
  have HX0 := Lib.hid X0
  have HS0 := Lib.hid s0
  have hxl := X0.lt
  clear X0 s0
  go_wp2_with fail
  go_loopw [7, 8, 9] (fun O Q I wr => ∃ (k : Nat) (a3 : Option Addr) (c3 : Nat), k ≤ N ∧ I = .int .i64 k ∧ O = .slice a3 k c3 ∧ Q = .bool false ∧ wr.ownsRow w0.heap.size 44 5 (.slice a3 k c3) k (prCells (l.take k)) ∧ Below w0.heap.size w0 wr) (fun _ _ I _ => N - (intOf I).toNat)
  case atStart => exact ⟨0, none, 0, by omega, rfl, rfl, rfl, World.ownsRow_nil _ _ _ _, Below.refl _ _⟩
  case round =>
    obtain ⟨k, a3, c3, hk, rfl, rfl, rfl, hown, hb⟩ := hrel
    by_cases hkN : k < N
    · have hil : k < l.length := by rw [HNe.out]; exact hkN
      have hkN2 : (k : Int) < (N : Int) := by omega
      obtain ⟨b1, o1, rfl, hb1, _⟩ := HS0.out.pr (by omega)
      obtain ⟨y, hy⟩ : ∃ y, l.getD k pr0 = y := ⟨_, rfl⟩
      have HR := Lib.hid (fun w7 (h7 : Below w0.heap.size w0 w7) => pr_cells_at (HS0.out.below h7 hB0) hil hy)
      have HXX := Lib.hid (fun w7 (h7 : Below w0.heap.size w0 w7) => (HX0.out.keep h7).fiveP)
      have HY := Lib.hid hy
      clear hy
      have hbz := hb.size
      obtain ⟨⟨e0, e1, e2, e3, e4⟩, hxl2⟩ := HXX.out _ hb
      obtain ⟨r0, r1, r2, r3, r4⟩ := HR.out _ hb
      have hb1z : b1 < wr.heap.size := by omega
      have htk := Lib.hid (take_get l pr0 k hil)
      have hd : decide (x.p < y.p) = false := by
        have := H1.out k hil; rw [HY.out] at this; unfold prKey at this; exact decide_eq_false (by omega)
      go_wp2_with fail
      go_quiet (fail)
      have ownq := ownN_drewN hown nq
      have hbq := hb.trans (below_drewN _ wr nq)
      generalize wr.drewN nq = wq at *
      clear e0 e1 e2 e3 e4 r0 r1 r2 r3 r4 hbz hb1z hxl2
      have hbz := hbq.size
      have hb1z : b1 < wq.heap.size := by omega
      obtain ⟨⟨e0, e1, e2, e3, e4⟩, hxl2⟩ := HXX.out _ hbq
      obtain ⟨r0, r1, r2, r3, r4⟩ := HR.out _ hbq
      go_wp2_with fail
      go_quiet (fail)
      have ownp := ownN_drewN ownq nq
      have hbp := hbq.trans (below_drewN _ wq nq)
      generalize wq.drewN nq = wp at *
      clear e0 e1 e2 e3 e4 r0 r1 r2 r3 r4 hbz hb1z hxl2
      have hbz := hbp.size
      have hb1z : b1 < wp.heap.size := by omega
      obtain ⟨⟨e0, e1, e2, e3, e4⟩, hxl2⟩ := HXX.out _ hbp
      obtain ⟨r0, r1, r2, r3, r4⟩ := HR.out _ hbp
      have HO8 := Lib.hid (ownp.alloc (.cells #[.int .i64 y.p, .int .i64 y.e, .int .i64 y.s, .int .i64 y.n, .int .i64 y.b] 44))
      have HB8 := Lib.hid (hbp.alloc hbz (.cells #[.int .i64 y.p, .int .i64 y.e, .int .i64 y.s, .int .i64 y.n, .int .i64 y.b] 44))
      go_wp2_with (at_builtin; refine wp_app rfl _ _ 22 rfl w0.heap.size 44 i0 (.agg #[.int .i64 0, .int .i64 0, .int .i64 0, .int .i64 0, .int .i64 0]) 5 40 Try.underlying22 hi hz0 hz1 hz2 rfl (by decide) _ _ _ rfl HO8.out _ _ _ rfl [.int .i64 y.p, .int .i64 y.e, .int .i64 y.s, .int .i64 y.n, .int .i64 y.b] _ w0 rfl (sl_fresh _ [.int .i64 y.p, .int .i64 y.e, .int .i64 y.s, .int .i64 y.n, .int .i64 y.b] 44) (fun h => by cases h) (pr_five _ _ _ _ _) ?c8a ?c8b ?c8c HB8.out ?_)
      case c8a => unfold maxLen; omega
      case c8b => omega
      case c8c => simp; omega
      intro aw4 cw4 w4 own4 hb4
      clear ownp hbp
      clear e0 e1 e2 e3 e4 r0 r1 r2 r3 r4
      have own5 : w4.ownsRow w0.heap.size 44 5 (.slice aw4 (k + 1) cw4) (k + 1) (prCells (l.take (k + 1))) := by
        rw [htk.out, HY.out, prCells_snoc]; exact own4
      clear own4
      go_wp2_with fail
      go_roundw
      case rel => exact ⟨k + 1, aw4, cw4, by omega, by go_num, rfl, rfl, own5, hb4⟩
      case measure => simp [intOf]; omega
    · obtain rfl : k = N := by omega
      obtain ⟨⟨e0, e1, e2, e3, e4⟩, hxl2⟩ := (HX0.out.keep hb).fiveP
      have hbz := hb.size
      have HO9 := Lib.hid (hown.alloc (.cells #[.int .i64 x.p, .int .i64 x.e, .int .i64 x.s, .int .i64 x.n, .int .i64 x.b] 44))
      have HB9 := Lib.hid (hb.alloc hbz (.cells #[.int .i64 x.p, .int .i64 x.e, .int .i64 x.s, .int .i64 x.n, .int .i64 x.b] 44))
      go_wp2_with (at_builtin; refine wp_app rfl _ _ 22 rfl w0.heap.size 44 i0 (.agg #[.int .i64 0, .int .i64 0, .int .i64 0, .int .i64 0, .int .i64 0]) 5 40 Try.underlying22 hi hz0 hz1 hz2 rfl (by decide) _ _ _ rfl HO9.out _ _ _ rfl [.int .i64 x.p, .int .i64 x.e, .int .i64 x.s, .int .i64 x.n, .int .i64 x.b] _ w0 rfl (sl_fresh _ [.int .i64 x.p, .int .i64 x.e, .int .i64 x.s, .int .i64 x.n, .int .i64 x.b] 44) (fun h => by cases h) (pr_five _ _ _ _ _) ?c9a ?c9b ?c9c HB9.out ?_)
      case c9a => unfold maxLen; omega
      case c9b => omega
      case c9c => simp; omega
      intro aw4 cw4 w4 own4 hb4
      clear hown hb
      go_wp2_with fail
      go_ret
      exact rp_end own4 (by rw [HD.out, prCells_snoc, List.take_of_length_le (by rw [HNe.out]; exact Nat.le_refl _)]) (by rw [HD.out]; simp [HNe.out]) (b0.trans (hb4.mono (by omega)))
theorem rput_walk (l : List Pr) (N : Nat) (a : Option Addr) (c B : Nat) (x : Pr) (w : World) (D : List Pr) (hD : PutIs l x D) (hN : l.length = N) (hNm : N ≤ 1000) (h : Sl w B a (prCells l)) (hB : B ≤ w.heap.size) :
    Calls Try.prog 45 #[.slice a N c, .agg #[.int .i64 x.p, .int .i64 x.e, .int .i64 x.s, .int .i64 x.n, .int .i64 x.b]] w (RpPost w D) := by
  rcases hD with ⟨h0, ⟨j, hj, h1, h2, hD⟩ | ⟨h1, hD⟩⟩ | ⟨j, hj, h1, h2, hD⟩
  · exact rput_ins l N a c B x w D j h0 hj h1 h2 hD hN hNm h hB
  · exact rput_end l N a c B x w D h0 h1 hD hN hNm h hB
  · exact rput_at l N a c B x w D j hj h1 h2 hD hN hNm h hB
end Go.Proofs.Ytfjnmjibifefgaa
