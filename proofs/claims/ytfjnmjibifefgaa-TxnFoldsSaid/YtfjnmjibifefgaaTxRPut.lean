/- The walk of headgateref12.put. -/
import Derived.Test.YtfjnmjibifefgaaTxRow
import Derived.Test.YtfjnmjibifefgaaApp
namespace Go.Proofs.Ytfjnmjibifefgaa
open Go.RowKit Vm
set_option linter.unusedVariables false
set_option linter.unusedSimpArgs false

def RpPost (w : World) (D : List Tr) (e : Ending) (w' : World) : Prop := ∃ a c, e = .returned (.slice a D.length c) ∧ Sl w' w'.heap.size a (trCells D) ∧ Below w.heap.size w w'
theorem rp_end {w w5 : World} {D : List Tr} {base n : Nat} {xs : List Value} {a : Option Addr} {c : Nat} (ho : w5.ownsRow base 52 5 (.slice a n c) n xs) (he : xs = trCells D) (hn : n = D.length) (hb : Below w.heap.size w w5) : RpPost w D (.returned (.slice a n c)) w5 := by
  subst he hn
  exact ⟨a, c, rfl, ownN_sl ho, hb⟩
theorem tr_five (a b c d e : Int) : ∀ v ∈ ([.int .i64 a, .int .i64 b, .int .i64 c, .int .i64 d, .int .i64 e] : List Value), v.oneCell' = true := fun v hv => by simp at hv; rcases hv with rfl | rfl | rfl | rfl | rfl <;> rfl
set_option maxRecDepth 100000 in
set_option maxHeartbeats 8000000 in
theorem rput12_walk (l : List Tr) (N : Nat) (a : Option Addr) (c B : Nat) (x : Tr) (w : World) (hN : l.length = N) (hNm : N ≤ 2000) (hl : RightT l) (h : Sl w B a (trCells l)) (hB : B ≤ w.heap.size) (hac : (a = none → c = 0) ∧ N ≤ c) :
    Calls Try.prog 58 #[.slice a N c, .agg #[.int .i64 x.p, .int .i64 x.e, .int .i64 x.s, .int .i64 x.m, .int .i64 x.l]] w (RpPost w (putR trKey l x)) := by
  obtain ⟨i0, hi, hz0, hz1, hz2⟩ := info_parts info_tr
  have hasc := Lib.hid (rightT_asc hl)
  have hal := balloc w (.cells #[.int .i64 x.p, .int .i64 x.e, .int .i64 x.s, .int .i64 x.m, .int .i64 x.l] 52)
  have hWh := Whole.new w 52 #[.int .i64 x.p, .int .i64 x.e, .int .i64 x.s, .int .i64 x.m, .int .i64 x.l]
  have hzA : w.heap.size < (w.alloc (.cells #[.int .i64 x.p, .int .i64 x.e, .int .i64 x.s, .int .i64 x.m, .int .i64 x.l] 52)).heap.size := by simp
  obtain ⟨D, hD⟩ : ∃ D, D = putR trKey l x := ⟨_, rfl⟩
  rw [← hD]
  have HD := Lib.hid hD
  have HNe := Lib.hid hN
  have hNc := hac.2
  have HA := Lib.hid hac.1
  clear hD hl hac
  go_enter Try.func58, Try.ntmps58
  go_wp2_with fail
  obtain ⟨wA, hwA⟩ : ∃ wA, wA = w.alloc (.cells #[.int .i64 x.p, .int .i64 x.e, .int .i64 x.s, .int .i64 x.m, .int .i64 x.l] 52) := ⟨_, rfl⟩
  rw [← hwA] at hal hWh hzA ⊢
  have sA := h.below hal hB
  have hBA : B ≤ wA.heap.size := by omega
  clear hwA h
  have HAL := Lib.hid hal
  go_loopw [5, 6] (fun O I wr => ∃ (k : Nat) (a3 : Option Addr) (c3 : Nat), k ≤ N ∧ I = .int .i64 k ∧ O = .slice a3 k c3 ∧ Hid (∀ p, p < k → trKey (l.getD p tr0) < x.p) ∧ wr.ownsRow wA.heap.size 52 5 (.slice a3 k c3) k (trCells (l.take k)) ∧ Below wA.heap.size wA wr) (fun _ I _ => N - (intOf I).toNat)
  case atStart => exact ⟨0, none, 0, by omega, rfl, rfl, Lib.hid (fun p hp => by omega), World.ownsRow_nil _ _ _ _, Below.refl _ _⟩
  case round =>
    obtain ⟨k, a3, c3, hk, rfl, rfl, HL, hown, hbw⟩ := hrel
    have hWr := hWh.keep hbw
    have hbz := hbw.size
    have HSL := Lib.hid (fun w7 (h7 : Below wA.heap.size wA w7) => (sA.below h7 hBA : Sl w7 B a (trCells l)))
    have e0 := hWr.cell 0
    have e1 := hWr.cell 1
    have e2 := hWr.cell 2
    have e3 := hWr.cell 3
    have e4 := hWr.cell 4
    simp only [List.getElem?_toArray, List.getElem?_cons_zero, List.getElem?_cons_succ] at e0 e1 e2 e3 e4
    have hzx : w.heap.size < wr.heap.size := by omega
    by_cases hkN : k < N
    · have hil : k < l.length := by rw [HNe.out]; exact hkN
      have hkN2 : (k : Int) < (N : Int) := by omega
      obtain ⟨b1, o1, rfl, hb1, hc⟩ := (sA.below hbw hBA).tr (by omega)
      obtain ⟨r0, r1, r2, r3, r4⟩ := hc k hil
      have hz1' : b1 < wr.heap.size := by omega
      have htk := Lib.hid (take_get l tr0 k hil)
      obtain ⟨y, hy⟩ : ∃ y, l.getD k tr0 = y := ⟨_, rfl⟩
      simp only [hy] at r0 r1 r2 r3 r4 htk
      have HY := Lib.hid hy
      clear hy hc hWr
      by_cases hlt : y.p < x.p
      · have hd1 : decide (y.p < x.p) = true := decide_eq_true hlt
        go_wp2_with fail
        go_quiet (fail)
        have hownq : (wr.drewN nq).ownsRow wA.heap.size 52 5 (.slice a3 k c3) k (trCells (l.take k)) := hown
        have hbq : Below wA.heap.size wA (wr.drewN nq) := hbw.trans (below_drewN _ _ _)
        have r0 : (wr.drewN nq).cell? ⟨b1, o1 + k * 5, none⟩ = _ := r0
        have r1 : (wr.drewN nq).cell? ⟨b1, o1 + k * 5 + 1, none⟩ = _ := r1
        have r2 : (wr.drewN nq).cell? ⟨b1, o1 + k * 5 + 2, none⟩ = _ := r2
        have r3 : (wr.drewN nq).cell? ⟨b1, o1 + k * 5 + 3, none⟩ = _ := r3
        have r4 : (wr.drewN nq).cell? ⟨b1, o1 + k * 5 + 4, none⟩ = _ := r4
        have hz2' : b1 < (wr.drewN nq).heap.size := hz1'
        have hbzq : wA.heap.size ≤ (wr.drewN nq).heap.size := hbz
        generalize wr.drewN nq = wq at *
        have HOw := Lib.hid (hownq.alloc (.cells #[.int .i64 y.p, .int .i64 y.e, .int .i64 y.s, .int .i64 y.m, .int .i64 y.l] 52))
        have HBw := Lib.hid (hbq.alloc hbzq (.cells #[.int .i64 y.p, .int .i64 y.e, .int .i64 y.s, .int .i64 y.m, .int .i64 y.l] 52))
        clear hown hownq e0 e1 e2 e3 e4
        go_wp2_with (at_builtin; refine wp_app rfl _ _ 48 rfl wA.heap.size 52 i0 (.agg #[.int .i64 0, .int .i64 0, .int .i64 0, .int .i64 0, .int .i64 0]) 5 40 Try.underlying48 hi hz0 hz1 hz2 rfl (by decide) _ _ _ rfl HOw.out _ _ _ rfl [.int .i64 y.p, .int .i64 y.e, .int .i64 y.s, .int .i64 y.m, .int .i64 y.l] _ wA rfl (sl_fresh _ [.int .i64 y.p, .int .i64 y.e, .int .i64 y.s, .int .i64 y.m, .int .i64 y.l] 52) (fun h => by cases h) (tr_five _ _ _ _ _) ?c1 ?c2 ?c3 HBw.out ?_)
        case c1 => unfold maxLen; omega
        case c2 => omega
        case c3 => simp; omega
        intro a4 c4 w4 own4 b4
        have own5 : w4.ownsRow wA.heap.size 52 5 (.slice a4 (k + 1) c4) (k + 1) (trCells (l.take (k + 1))) := by
          rw [htk.out, trCells_snoc]; exact own4
        clear own4
        go_wp2_with fail
        go_roundw
        case rel => exact ⟨k + 1, a4, c4, by omega, by go_num, rfl, Lib.hid (fun p hp => by rcases Nat.lt_or_ge p k with h1 | h1; exact HL.out p h1; rw [show p = k from by omega, HY.out]; exact hlt), own5, b4⟩
        case measure => simp [intOf]; omega
      · have hd1 : decide (y.p < x.p) = false := decide_eq_false hlt
        have hAt := Lib.hid (atR_of trKey tr0 hasc.out (by omega) HL.out (fun _ => by rw [HY.out]; unfold trKey; omega))
        by_cases he : y.p = x.p
        · have HDe := Lib.hid (show D = l.take k ++ [x] ++ l.drop (k + 1) from by rw [HD.out]; exact putR_old trKey tr0 hAt.out hil (by rw [HY.out]; exact he))
          have hd2 : (y.p == x.p) = true := by rw [he]; exact beq_self_eq_true _
          have hck : Hid (c = k + 1 → trCells (l.drop (k + 1)) = []) := Lib.hid (fun h => by rw [List.drop_of_length_le (by rw [HNe.out]; omega)]; rfl)
          have hwk : IntKind.i64.wrap ((k : Int) + 1) = ((k + 1 : Nat) : Int) := by rw [IntWalk.i64_in _ (by omega)]; omega
          clear he
          rcases (show c = k + 1 ∨ ¬ c = k + 1 by omega) with hc1 | hc1
          all_goals
            first | (have HDn := Lib.hid (hck.out hc1)) | skip
            go_wp2_with fail
            go_quiet (fail)
            have hownq : (wr.drewN nq).ownsRow wA.heap.size 52 5 (.slice a3 k c3) k (trCells (l.take k)) := hown
            have hbq : Below wA.heap.size wA (wr.drewN nq) := hbw.trans (below_drewN _ _ _)
            have e0 : (wr.drewN nq).cell? ⟨w.heap.size, 0, none⟩ = _ := e0
            have e1 : (wr.drewN nq).cell? ⟨w.heap.size, 1, none⟩ = _ := e1
            have e2 : (wr.drewN nq).cell? ⟨w.heap.size, 2, none⟩ = _ := e2
            have e3 : (wr.drewN nq).cell? ⟨w.heap.size, 3, none⟩ = _ := e3
            have e4 : (wr.drewN nq).cell? ⟨w.heap.size, 4, none⟩ = _ := e4
            have hbzq : wA.heap.size ≤ (wr.drewN nq).heap.size := hbz
            generalize wr.drewN nq = wq at *
            have HOw := Lib.hid (hownq.alloc (.cells #[.int .i64 x.p, .int .i64 x.e, .int .i64 x.s, .int .i64 x.m, .int .i64 x.l] 52))
            have HBw := Lib.hid (hbq.alloc hbzq (.cells #[.int .i64 x.p, .int .i64 x.e, .int .i64 x.s, .int .i64 x.m, .int .i64 x.l] 52))
            clear hown hownq
            go_wp2_with (at_builtin; refine wp_app rfl _ _ 48 rfl wA.heap.size 52 i0 (.agg #[.int .i64 0, .int .i64 0, .int .i64 0, .int .i64 0, .int .i64 0]) 5 40 Try.underlying48 hi hz0 hz1 hz2 rfl (by decide) _ _ _ rfl HOw.out _ _ _ rfl [.int .i64 x.p, .int .i64 x.e, .int .i64 x.s, .int .i64 x.m, .int .i64 x.l] _ wA rfl (sl_fresh _ [.int .i64 x.p, .int .i64 x.e, .int .i64 x.s, .int .i64 x.m, .int .i64 x.l] 52) (fun h => by cases h) (tr_five _ _ _ _ _) ?cb1 ?cb2 ?cb3 HBw.out ?_)
            case cb1 => unfold maxLen; omega
            case cb2 => omega
            case cb3 => simp; omega
            intro a4 c4 w4 own4 b4
            clear e0 e1 e2 e3 e4 r0 r1 r2 r3 r4
            have e0 := (hWh.keep b4).cell 0
            simp only [List.getElem?_toArray, List.getElem?_cons_zero, List.getElem?_cons_succ] at e0
            have hz4 := b4.size
            have hzx4 : w.heap.size < w4.heap.size := by omega
            obtain ⟨b9, o9, e9, _, hc⟩ := (HSL.out w4 b4).tr (by omega)
            injection e9 with e9
            injection e9 with e9 e10
            subst e9 e10
            obtain ⟨r0, _, _, _, _⟩ := hc k hil
            rw [HY.out] at r0
            clear hc
            go_wp2_with fail
            go_quiet (fail)
            have own5 : (w4.drewN nq).ownsRow wA.heap.size 52 5 (.slice a4 (k + 1) c4) (k + 1) _ := own4
            have b5 : Below wA.heap.size wA (w4.drewN nq) := b4.trans (below_drewN _ _ _)
            have hz5 : wA.heap.size ≤ (w4.drewN nq).heap.size := hz4
            generalize w4.drewN nq = w5 at *
            have HO5 := Lib.hid own5
            have HS5 := HSL.out w5 b5
            clear own4 b4 own5 e0 r0
            go_wp2_with (at_builtin; refine wp_app rfl _ _ 48 rfl wA.heap.size 52 i0 (.agg #[.int .i64 0, .int .i64 0, .int .i64 0, .int .i64 0, .int .i64 0]) 5 40 Try.underlying48 hi hz0 hz1 hz2 rfl (by decide) _ _ _ rfl HO5.out _ _ _ rfl (trCells (l.drop (k + 1))) B wA ?cb4 (by first | exact tr_sub HS5 _ | exact .inl HDn.out) (by first | (intro h; cases h; done) | (intro _; exact ⟨by omega, by omega⟩)) (trCells_one _) ?cb5 ?cb6 hz5 b5 ?_)
            case cb4 => first | (rw [trCells_length, List.length_drop, HNe.out]; done) | (rw [trCells_length, List.length_drop, HNe.out]; omega)
            case cb5 => unfold maxLen; omega
            case cb6 => omega
            intro a8 c8 w8 own8 b8
            go_wp2_with fail
            go_ret
            exact rp_end own8 (by rw [HDe.out, trCells_append, trCells_snoc]; simp) (by rw [HDe.out]; simp; have := HNe.out; first | omega | exact List.eq_nil_of_length_eq_zero this | exact (List.eq_nil_of_length_eq_zero this).symm) (HAL.out.trans (b8.mono (by omega)))
        · have hno : ¬ (k < l.length ∧ trKey (l.getD k tr0) = trKey x) := fun h => he (by have := h.2; rw [HY.out] at this; exact this)
          have HDe := Lib.hid (show D = l.take k ++ [x] ++ l.drop k from by rw [HD.out]; exact putR_new trKey tr0 hAt.out hno)
          have hd2 : (y.p == x.p) = false := beq_eq_false_iff_ne.2 he
          have HDn := Lib.hid (show True from trivial)
          have hckk : ¬ c = k := by omega
          have hkN3 : k ≤ N := by omega
          clear he hno
          go_wp2_with fail
          go_quiet (fail)
          have hownq : (wr.drewN nq).ownsRow wA.heap.size 52 5 (.slice a3 k c3) k (trCells (l.take k)) := hown
          have hbq : Below wA.heap.size wA (wr.drewN nq) := hbw.trans (below_drewN _ _ _)
          have e0 : (wr.drewN nq).cell? ⟨w.heap.size, 0, none⟩ = _ := e0
          have e1 : (wr.drewN nq).cell? ⟨w.heap.size, 1, none⟩ = _ := e1
          have e2 : (wr.drewN nq).cell? ⟨w.heap.size, 2, none⟩ = _ := e2
          have e3 : (wr.drewN nq).cell? ⟨w.heap.size, 3, none⟩ = _ := e3
          have e4 : (wr.drewN nq).cell? ⟨w.heap.size, 4, none⟩ = _ := e4
          have hbzq : wA.heap.size ≤ (wr.drewN nq).heap.size := hbz
          generalize wr.drewN nq = wq at *
          have HOw := Lib.hid (hownq.alloc (.cells #[.int .i64 x.p, .int .i64 x.e, .int .i64 x.s, .int .i64 x.m, .int .i64 x.l] 52))
          have HBw := Lib.hid (hbq.alloc hbzq (.cells #[.int .i64 x.p, .int .i64 x.e, .int .i64 x.s, .int .i64 x.m, .int .i64 x.l] 52))
          clear hown hownq
          go_wp2_with (at_builtin; refine wp_app rfl _ _ 48 rfl wA.heap.size 52 i0 (.agg #[.int .i64 0, .int .i64 0, .int .i64 0, .int .i64 0, .int .i64 0]) 5 40 Try.underlying48 hi hz0 hz1 hz2 rfl (by decide) _ _ _ rfl HOw.out _ _ _ rfl [.int .i64 x.p, .int .i64 x.e, .int .i64 x.s, .int .i64 x.m, .int .i64 x.l] _ wA rfl (sl_fresh _ [.int .i64 x.p, .int .i64 x.e, .int .i64 x.s, .int .i64 x.m, .int .i64 x.l] 52) (fun h => by cases h) (tr_five _ _ _ _ _) ?cd1 ?cd2 ?cd3 HBw.out ?_)
          case cd1 => unfold maxLen; omega
          case cd2 => omega
          case cd3 => simp; omega
          intro a4 c4 w4 own4 b4
          clear e0 e1 e2 e3 e4 r0 r1 r2 r3 r4
          have e0 := (hWh.keep b4).cell 0
          simp only [List.getElem?_toArray, List.getElem?_cons_zero, List.getElem?_cons_succ] at e0
          have hz4 := b4.size
          have hzx4 : w.heap.size < w4.heap.size := by omega
          obtain ⟨b9, o9, e9, _, hc⟩ := (HSL.out w4 b4).tr (by omega)
          injection e9 with e9
          injection e9 with e9 e10
          subst e9 e10
          obtain ⟨r0, _, _, _, _⟩ := hc k hil
          rw [HY.out] at r0
          clear hc
          go_wp2_with fail
          go_quiet (fail)
          have own5 : (w4.drewN nq).ownsRow wA.heap.size 52 5 (.slice a4 (k + 1) c4) (k + 1) _ := own4
          have b5 : Below wA.heap.size wA (w4.drewN nq) := b4.trans (below_drewN _ _ _)
          have hz5 : wA.heap.size ≤ (w4.drewN nq).heap.size := hz4
          generalize w4.drewN nq = w5 at *
          have HO5 := Lib.hid own5
          have HS5 := HSL.out w5 b5
          clear own4 b4 own5 e0 r0
          go_wp2_with (at_builtin; refine wp_app rfl _ _ 48 rfl wA.heap.size 52 i0 (.agg #[.int .i64 0, .int .i64 0, .int .i64 0, .int .i64 0, .int .i64 0]) 5 40 Try.underlying48 hi hz0 hz1 hz2 rfl (by decide) _ _ _ rfl HO5.out _ _ _ rfl (trCells (l.drop (k))) B wA ?cd4 (by first | exact tr_sub HS5 _ | exact .inl HDn.out) (by first | (intro h; cases h; done) | (intro _; exact ⟨by omega, by omega⟩)) (trCells_one _) ?cd5 ?cd6 hz5 b5 ?_)
          case cd4 => first | (rw [trCells_length, List.length_drop, HNe.out]; done) | (rw [trCells_length, List.length_drop, HNe.out]; omega)
          case cd5 => unfold maxLen; omega
          case cd6 => omega
          intro a8 c8 w8 own8 b8
          go_wp2_with fail
          go_ret
          exact rp_end own8 (by rw [HDe.out, trCells_append, trCells_snoc]; simp) (by rw [HDe.out]; simp; have := HNe.out; first | omega | exact List.eq_nil_of_length_eq_zero this | exact (List.eq_nil_of_length_eq_zero this).symm) (HAL.out.trans (b8.mono (by omega)))
    · obtain rfl : k = N := by omega
      have hAt := Lib.hid (atR_of trKey tr0 hasc.out (by rw [HNe.out]; exact Nat.le_refl _) HL.out (fun h => by have := HNe.out; omega))
      have hno : ¬ (k < l.length ∧ trKey (l.getD k tr0) = trKey x) := fun h => by have := h.1; have := HNe.out; omega
      have HDe := Lib.hid (show D = l.take k ++ [x] ++ l.drop k from by rw [HD.out]; exact putR_new trKey tr0 hAt.out hno)
      have HDn := Lib.hid (show trCells (l.drop k) = [] by rw [List.drop_of_length_le (by rw [HNe.out]; exact Nat.le_refl _)]; rfl)
      have hNl : decide ((k : Int) < (k : Int)) = false := by simp
      clear hno
      rcases a with _ | ⟨b1, o1, p1⟩
      · obtain rfl := HA.out rfl
        obtain rfl : k = 0 := by omega
        go_wp2_with fail
        go_quiet (fail)
        have hownq : (wr.drewN nq).ownsRow wA.heap.size 52 5 (.slice a3 0 c3) 0 (trCells (l.take 0)) := hown
        have hbq : Below wA.heap.size wA (wr.drewN nq) := hbw.trans (below_drewN _ _ _)
        have e0 : (wr.drewN nq).cell? ⟨w.heap.size, 0, none⟩ = _ := e0
        have e1 : (wr.drewN nq).cell? ⟨w.heap.size, 1, none⟩ = _ := e1
        have e2 : (wr.drewN nq).cell? ⟨w.heap.size, 2, none⟩ = _ := e2
        have e3 : (wr.drewN nq).cell? ⟨w.heap.size, 3, none⟩ = _ := e3
        have e4 : (wr.drewN nq).cell? ⟨w.heap.size, 4, none⟩ = _ := e4
        have hbzq : wA.heap.size ≤ (wr.drewN nq).heap.size := hbz
        generalize wr.drewN nq = wq at *
        have HOw := Lib.hid (hownq.alloc (.cells #[.int .i64 x.p, .int .i64 x.e, .int .i64 x.s, .int .i64 x.m, .int .i64 x.l] 52))
        have HBw := Lib.hid (hbq.alloc hbzq (.cells #[.int .i64 x.p, .int .i64 x.e, .int .i64 x.s, .int .i64 x.m, .int .i64 x.l] 52))
        clear hown hownq
        go_wp2_with (at_builtin; refine wp_app rfl _ _ 48 rfl wA.heap.size 52 i0 (.agg #[.int .i64 0, .int .i64 0, .int .i64 0, .int .i64 0, .int .i64 0]) 5 40 Try.underlying48 hi hz0 hz1 hz2 rfl (by decide) _ _ _ rfl HOw.out _ _ _ rfl [.int .i64 x.p, .int .i64 x.e, .int .i64 x.s, .int .i64 x.m, .int .i64 x.l] _ wA rfl (sl_fresh _ [.int .i64 x.p, .int .i64 x.e, .int .i64 x.s, .int .i64 x.m, .int .i64 x.l] 52) (fun h => by cases h) (tr_five _ _ _ _ _) ?cf1 ?cf2 ?cf3 HBw.out ?_)
        case cf1 => unfold maxLen; omega
        case cf2 => omega
        case cf3 => simp; omega
        intro a4 c4 w4 own4 b4
        clear e0 e1 e2 e3 e4
        have e0 := (hWh.keep b4).cell 0
        simp only [List.getElem?_toArray, List.getElem?_cons_zero, List.getElem?_cons_succ] at e0
        have hz4 := b4.size
        have hzx4 : w.heap.size < w4.heap.size := by omega
        skip
        go_wp2_with fail
        go_quiet (fail)
        have own5 : (w4.drewN nq).ownsRow wA.heap.size 52 5 (.slice a4 (0 + 1) c4) (0 + 1) _ := own4
        have b5 : Below wA.heap.size wA (w4.drewN nq) := b4.trans (below_drewN _ _ _)
        have hz5 : wA.heap.size ≤ (w4.drewN nq).heap.size := hz4
        generalize w4.drewN nq = w5 at *
        have HO5 := Lib.hid own5
        have HS5 := HSL.out w5 b5
        clear own4 b4 own5 e0
        go_wp2_with (at_builtin; refine wp_app rfl _ _ 48 rfl wA.heap.size 52 i0 (.agg #[.int .i64 0, .int .i64 0, .int .i64 0, .int .i64 0, .int .i64 0]) 5 40 Try.underlying48 hi hz0 hz1 hz2 rfl (by decide) _ _ _ rfl HO5.out _ _ _ rfl (trCells (l.drop (0))) B wA ?cf4 (by first | exact tr_sub HS5 _ | exact .inl HDn.out) (by first | (intro h; cases h; done) | (intro _; exact ⟨by omega, by omega⟩)) (trCells_one _) ?cf5 ?cf6 hz5 b5 ?_)
        case cf4 => first | (rw [trCells_length, List.length_drop, HNe.out]; done) | (rw [trCells_length, List.length_drop, HNe.out]; omega)
        case cf5 => unfold maxLen; omega
        case cf6 => omega
        intro a8 c8 w8 own8 b8
        go_wp2_with fail
        go_ret
        exact rp_end own8 (by rw [HDe.out, trCells_append, trCells_snoc]; simp) (by rw [HDe.out]; simp; have := HNe.out; first | omega | exact List.eq_nil_of_length_eq_zero this | exact (List.eq_nil_of_length_eq_zero this).symm) (HAL.out.trans (b8.mono (by omega)))
      · rcases (show c = k ∨ ¬ c = k by omega) with hc1 | hc1
        all_goals
          go_wp2_with fail
          go_quiet (fail)
          have hownq : (wr.drewN nq).ownsRow wA.heap.size 52 5 (.slice a3 k c3) k (trCells (l.take k)) := hown
          have hbq : Below wA.heap.size wA (wr.drewN nq) := hbw.trans (below_drewN _ _ _)
          have e0 : (wr.drewN nq).cell? ⟨w.heap.size, 0, none⟩ = _ := e0
          have e1 : (wr.drewN nq).cell? ⟨w.heap.size, 1, none⟩ = _ := e1
          have e2 : (wr.drewN nq).cell? ⟨w.heap.size, 2, none⟩ = _ := e2
          have e3 : (wr.drewN nq).cell? ⟨w.heap.size, 3, none⟩ = _ := e3
          have e4 : (wr.drewN nq).cell? ⟨w.heap.size, 4, none⟩ = _ := e4
          have hbzq : wA.heap.size ≤ (wr.drewN nq).heap.size := hbz
          generalize wr.drewN nq = wq at *
          have HOw := Lib.hid (hownq.alloc (.cells #[.int .i64 x.p, .int .i64 x.e, .int .i64 x.s, .int .i64 x.m, .int .i64 x.l] 52))
          have HBw := Lib.hid (hbq.alloc hbzq (.cells #[.int .i64 x.p, .int .i64 x.e, .int .i64 x.s, .int .i64 x.m, .int .i64 x.l] 52))
          clear hown hownq
          go_wp2_with (at_builtin; refine wp_app rfl _ _ 48 rfl wA.heap.size 52 i0 (.agg #[.int .i64 0, .int .i64 0, .int .i64 0, .int .i64 0, .int .i64 0]) 5 40 Try.underlying48 hi hz0 hz1 hz2 rfl (by decide) _ _ _ rfl HOw.out _ _ _ rfl [.int .i64 x.p, .int .i64 x.e, .int .i64 x.s, .int .i64 x.m, .int .i64 x.l] _ wA rfl (sl_fresh _ [.int .i64 x.p, .int .i64 x.e, .int .i64 x.s, .int .i64 x.m, .int .i64 x.l] 52) (fun h => by cases h) (tr_five _ _ _ _ _) ?ch1 ?ch2 ?ch3 HBw.out ?_)
          case ch1 => unfold maxLen; omega
          case ch2 => omega
          case ch3 => simp; omega
          intro a4 c4 w4 own4 b4
          clear e0 e1 e2 e3 e4
          have e0 := (hWh.keep b4).cell 0
          simp only [List.getElem?_toArray, List.getElem?_cons_zero, List.getElem?_cons_succ] at e0
          have hz4 := b4.size
          have hzx4 : w.heap.size < w4.heap.size := by omega
          skip
          go_wp2_with fail
          go_quiet (fail)
          have own5 : (w4.drewN nq).ownsRow wA.heap.size 52 5 (.slice a4 (k + 1) c4) (k + 1) _ := own4
          have b5 : Below wA.heap.size wA (w4.drewN nq) := b4.trans (below_drewN _ _ _)
          have hz5 : wA.heap.size ≤ (w4.drewN nq).heap.size := hz4
          generalize w4.drewN nq = w5 at *
          have HO5 := Lib.hid own5
          have HS5 := HSL.out w5 b5
          clear own4 b4 own5 e0
          go_wp2_with (at_builtin; refine wp_app rfl _ _ 48 rfl wA.heap.size 52 i0 (.agg #[.int .i64 0, .int .i64 0, .int .i64 0, .int .i64 0, .int .i64 0]) 5 40 Try.underlying48 hi hz0 hz1 hz2 rfl (by decide) _ _ _ rfl HO5.out _ _ _ rfl (trCells (l.drop (k))) B wA ?ch4 (by first | exact .inl HDn.out | exact .inl HDn.out) (by first | (intro h; cases h; done) | (intro _; exact ⟨by omega, by omega⟩)) (trCells_one _) ?ch5 ?ch6 hz5 b5 ?_)
          case ch4 => first | (rw [trCells_length, List.length_drop, HNe.out]; done) | (rw [trCells_length, List.length_drop, HNe.out]; omega)
          case ch5 => unfold maxLen; omega
          case ch6 => omega
          intro a8 c8 w8 own8 b8
          go_wp2_with fail
          go_ret
          exact rp_end own8 (by rw [HDe.out, trCells_append, trCells_snoc]; simp) (by rw [HDe.out]; simp; have := HNe.out; first | omega | exact List.eq_nil_of_length_eq_zero this | exact (List.eq_nil_of_length_eq_zero this).symm) (HAL.out.trans (b8.mono (by omega)))
end Go.Proofs.Ytfjnmjibifefgaa
