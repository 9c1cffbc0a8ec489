/- The walk of the statement DedupAgain of layer 7. -/
import Derived.Test.YtfjnmjibifefgaaDdLet
namespace Go.Proofs.Ytfjnmjibifefgaa
open Go.RowKit Vm Bm
set_option linter.unusedVariables false
set_option linter.unusedSimpArgs false

/-- The last one of a producer, among the first i. -/
def LastIs (I : List Bx) (pid : Int) (i : Nat) (t : Int) : Prop := (t = -1 ∧ ∀ p, p < i → (I.getD p bx0).b.pid ≠ pid) ∨ ∃ j : Nat, t = j ∧ j < i ∧ (I.getD j bx0).b.pid = pid ∧ ∀ p, j < p → p < i → (I.getD p bx0).b.pid ≠ pid
theorem lastIs_no {I : List Bx} {pid : Int} {i : Nat} {t : Int} (h : LastIs I pid i t) (hy : (I.getD i bx0).b.pid ≠ pid) : LastIs I pid (i + 1) t := by
  rcases h with ⟨h1, h2⟩ | ⟨j, h1, h2, h3, h4⟩
  · refine .inl ⟨h1, fun p hp => ?_⟩
    rcases Nat.lt_or_ge p i with h | h
    · exact h2 p h
    · rw [show p = i from by omega]; exact hy
  · refine .inr ⟨j, h1, by omega, h3, fun p hp1 hp2 => ?_⟩
    rcases Nat.lt_or_ge p i with h | h
    · exact h4 p hp1 h
    · rw [show p = i from by omega]; exact hy
theorem lastIs_yes {I : List Bx} {pid : Int} {i : Nat} (hy : (I.getD i bx0).b.pid = pid) : LastIs I pid (i + 1) i := .inr ⟨i, rfl, by omega, hy, fun p hp1 hp2 => by omega⟩
/-- What is known of the last batch of a producer. -/
theorem last_dl {I : List Bx} {A : List Int} {R : List Pr} {nx : Int} {z j : Nat} (h : LetInv I A R nx) (hz : 1 ≤ z) (hj : j < I.length) (hp : (I.getD j bx0).b.pid = z) (hl : ∀ p, j < p → p < I.length → (I.getD p bx0).b.pid ≠ z) {y : Bx} (hy : I.getD j bx0 = y) :
    ∃ r, RowP R y.b.pid r true ∧ I64 r.s ∧ I64 r.n ∧ DlIs y.b r (A.getD j 0) true 0 ∧ (y.b.seq + y.b.l.length ≤ 1099511627776 → DlIs { y.b with seq := y.b.seq + y.b.l.length } r 0 false 0) ∧ 0 ≤ y.b.seq ∧ y.b.seq ≤ 1099511627776 ∧ y.b.l.length ≤ 64 := by
  subst hy
  have hm := h.may (I.getD j bx0) (getD_mem I bx0 j hj)
  have hps := may_pos hm.1 hm.2
  obtain ⟨e, s, _, ⟨h1, _⟩ | ⟨j', hj', h1, h2, h3, _⟩⟩ := h.last (z : Int) (by omega)
  · exact absurd hp (h1 j hj)
  obtain rfl : j' = j := by
    rcases Nat.lt_trichotomy j' j with h4 | h4 | h4
    · exact absurd hp (h2 j h4 hj)
    · exact h4
    · exact absurd h1 (hl j' h4 hj')
  generalize I.getD j' bx0 = y at *
  have hz0 : y.b.pid ≠ 0 := by omega
  refine ⟨lastRow z y (A.getD j' 0), .inl ⟨by rw [hp]; exact h3, rfl⟩, ?_, ?_, ?_, ?_, hps.2.2.1, hps.2.2.2.1, hps.2.1⟩
  · show I64 y.b.seq; unfold I64; omega
  · show I64 (y.b.l.length : Int); unfold I64; omega
  · exact .inr (.inr ⟨⟨hm.1, hm.2, hps.2.2.1⟩, .inr (.inr (.inr (.inr (.inr (.inr (.inl ⟨hz0, rfl, (show (0 : Int) < y.b.l.length by omega), ⟨rfl, rfl⟩, rfl, rfl, rfl⟩))))))⟩)
  · intro hle
    have hM : MayB { y.b with seq := y.b.seq + y.b.l.length } := by
      obtain ⟨m1, m2, m3⟩ := hm.1
      unfold HeadB at m1
      unfold KindB Nobody Somebody at m2
      refine ⟨?_, ?_, m3⟩
      · unfold HeadB; simp only; omega
      · unfold KindB Nobody Somebody; simp only; omega
    refine .inr (.inr ⟨⟨hM, hm.2, by simp only; omega⟩, .inr (.inr (.inr (.inr (.inr (.inr (.inr (.inr ⟨hz0, rfl, (show (0 : Int) < y.b.l.length by omega), ?_, ?_, rfl, rfl, rfl⟩)))))))⟩)
    · intro hh
      have h5 : y.b.seq + y.b.l.length = y.b.seq := hh.1
      omega
    · show y.b.seq + y.b.l.length = IntKind.i64.wrap (y.b.seq + y.b.l.length)
      exact (i64_wrap_in ⟨hps.2.2.1, hps.2.2.2.1⟩ ⟨by omega, by omega⟩).symm
set_option maxRecDepth 100000 in
set_option maxHeartbeats 8000000 in
theorem dedupAgain_law (l : List Bx) (a : Option Addr) (c : Nat) (w : World) (hl : Sl w w.heap.size a (bxCells l)) (hi : ∀ x ∈ l, BxI w x) (hc : (a = none → c = 0) ∧ l.length ≤ c ∧ c ≤ maxLen) :
    Calls Try.prog 6 #[.slice a l.length c] w fun e w' => e = .returned (.bool true) ∧ Below w.heap.size w w' := by
  obtain ⟨N, hN⟩ : ∃ N, l.length = N := ⟨_, rfl⟩
  rw [hN] at hc ⊢
  have KL := Lib.hid (let_walk l N a c w hN (by omega) hl hi)
  have HI := Lib.hid hi
  unfold LetPost at KL
  clear hi hl hN hc
  go_enter Try.func6, Try.ntmps6
  go_wp2_with fail
  refine KL.out.mono ?_
  rintro e w1 ⟨I, A, R, nx, a6, a7, a8, c6, c7, c8, rfl, hinv, hI60, hsub, s6, s7, s8, b1⟩
  obtain ⟨m, hm⟩ : ∃ m, I.length = m := ⟨_, rfl⟩
  obtain ⟨p, hpp⟩ : ∃ p, R.length = p := ⟨_, rfl⟩
  have hp60 : p ≤ 60 := by have := hinv.pl; omega
  rw [hm] at hI60
  simp only [hm, hpp]
  have HM := Lib.hid hm
  have HPp := Lib.hid hpp
  have HAl := Lib.hid (hinv.al.trans hm)
  have HV := Lib.hid hinv
  have HS6 := Lib.hid s6
  have HS7 := Lib.hid s7
  have HS8 := Lib.hid s8
  have HSB := Lib.hid hsub
  have HB1 := Lib.hid b1
  clear hm hinv hsub s6 s7 s8 KL hpp b1
  go_wp2_with fail
  go_loopw [7] (fun Z wr => ∃ z : Nat, 1 ≤ z ∧ z ≤ 9 ∧ Z = .int .i64 z ∧ Below w1.heap.size w1 wr) (fun Z _ => 10 - (intOf Z).toNat)
  case atStart => exact ⟨1, by omega, by omega, rfl, Below.refl _ _⟩
  case round =>
    obtain ⟨z, hz1, hz9, rfl, hb⟩ := hrel
    by_cases hz8 : z ≤ 8
    · have hz8i : (z : Int) ≤ 8 := by omega
      have hwz : IntKind.i64.wrap ((z : Int) + 1) = ((z + 1 : Nat) : Int) := by rw [IntWalk.i64_in _ (by omega)]; omega
      have hbz := hb.size
      obtain ⟨wo, rfl⟩ : ∃ wo : World, wo = wr := ⟨_, rfl⟩
      go_wp2_with fail
      go_loop [8, 9] (fun L J => ∃ (i : Nat) (t : Int), i ≤ m ∧ L = .int .i64 t ∧ J = .int .i64 i ∧ Hid (LastIs I z i t)) (fun _ J => m - (intOf J).toNat)
      case atStart => exact ⟨0, -1, by omega, rfl, rfl, Lib.hid (.inl ⟨rfl, fun p hp => by omega⟩)⟩
      case round =>
        obtain ⟨i, t, him, rfl, rfl, HT⟩ := hrel
        by_cases hilt : i < m
        · have hilt2 : (i : Int) < (m : Int) := by omega
          have hi0 : 0 ≤ (i : Int) := by omega
          have hil : i < I.length := by rw [HM.out]; exact hilt
          have hwi : IntKind.i64.wrap ((i : Int) + 1) = ((i + 1 : Nat) : Int) := by rw [IntWalk.i64_in _ (by omega)]; omega
          obtain ⟨b6, o6, rfl, hb6, hc6⟩ := (HS6.out.below hb (Nat.le_refl _)).bx (by omega)
          obtain ⟨r0, r1, r2, r3, r4⟩ := hc6 i hil
          have hb6z : b6 < wo.heap.size := by omega
          obtain ⟨y, hy⟩ : ∃ y, I.getD i bx0 = y := ⟨_, rfl⟩
          rw [hy] at r0 r1 r2 r3 r4
          by_cases h1 : y.b.pid = z
          · have H2 := Lib.hid (lastIs_yes (I := I) (pid := z) (i := i) (by rw [hy]; exact h1))
            have f1 : (y.b.pid == (z : Int)) = true := by simp [h1]
            clear h1 hy hc6
            go_wp2_with fail
            go_round
            case rel => exact ⟨i + 1, i, by omega, rfl, by go_num, H2⟩
            case measure => simp [intOf]; omega
          · have H2 := Lib.hid (lastIs_no HT.out (by rw [hy]; exact h1))
            have f1 : (y.b.pid == (z : Int)) = false := by simp [h1]
            clear h1 hy hc6
            go_wp2_with fail
            go_round
            case rel => exact ⟨i + 1, t, by omega, rfl, by go_num, H2⟩
            case measure => simp [intOf]; omega
        · have hilt2 : ¬ (i : Int) < (m : Int) := by omega
          rcases HT.out with ⟨rfl, _⟩ | ⟨j, rfl, hji, hjp, hjl⟩
          · go_wp2_with fail
            go_roundw
            case rel => exact ⟨z + 1, by omega, by omega, by go_num, hb⟩
            case measure => simp [intOf]; omega
          · have hjm : j < m := by omega
            have hjlt : (j : Int) < (m : Int) := by omega
            have hj0 : ¬ (j : Int) < 0 := by omega
            have hj1 : 0 ≤ (j : Int) := by omega
            have hjI : j < I.length := by rw [HM.out]; exact hjm
            have hjA : j < A.length := by rw [HAl.out]; exact hjm
            obtain ⟨b6, o6, rfl, hb6, hc6⟩ := (HS6.out.below hb (Nat.le_refl _)).bx (by omega)
            obtain ⟨r0, r1, r2, r3, r4⟩ := hc6 j hjI
            have hb6z : b6 < wo.heap.size := by omega
            obtain ⟨y, hy⟩ : ∃ y, I.getD j bx0 = y := ⟨_, rfl⟩
            obtain ⟨v, hv⟩ : ∃ v, A.getD j 0 = v := ⟨_, rfl⟩
            have hdl := last_dl HV.out hz1 hjI hjp (fun p hp1 hp2 => hjl p hp1 (by have := HM.out; omega)) hy
            rw [hy] at r0 r1 r2 r3 r4
            rw [hv] at hdl
            have hyl := HSB.out y (by rw [← hy]; exact getD_mem I bx0 j hjI)
            obtain ⟨hbw, hrs⟩ := HI.out y hyl
            obtain ⟨r, hrow, hrs1, hrn1, hd1, hd2, hq0, hq1, hl64⟩ := hdl
            have HVv := Lib.hid hv
            have hal := balloc wo (.cells (bvc y.b y.a y.c) 25)
            have W0 := Whole.new wo 25 (bvc y.b y.a y.c)
            clear hc6 hy hv hyl hjp hjl HT hji
            go_upto_region 15 with fail
            obtain ⟨w2, hw2⟩ : ∃ w2, w2 = wo.alloc (.cells (bvc y.b y.a y.c) 25) := ⟨_, rfl⟩
            have hw2' : wo.alloc (.cells #[.int .i64 y.b.kind, .int .i64 y.b.pid, .int .i64 y.b.epoch, .int .i64 y.b.seq, .slice y.a y.b.l.length y.c] 25) = w2 := hw2.symm
            rw [← hw2] at hal W0
            rw [hw2']
            clear hw2 hw2' r0 r1 r2 r3 r4
            have b2 := hb.trans (hal.mono hbz)
            have rs2 := (hrs.below (gtrans HB1.out b2) (Nat.le_refl _)).grow (gtrans HB1.out b2).size
            have m2 := (HS8.out.below b2 (Nat.le_refl _)).grow b2.size
            have K := Lib.hid (dlook_walk R p a8 c8 w2.heap.size y.b y.a y.c w2 r v true 0 true HPp.out (by omega) (by unfold maxLen; omega) hbw ⟨hrs1, hrn1⟩ hrow hd1 m2 rs2 (Nat.le_refl _))
            unfold LkPost at K
            obtain ⟨x0, x1, x2, x3, x4, hgl⟩ := W0.five
            have HD2 := Lib.hid hd2
            have HRow := Lib.hid hrow
            have HBw := Lib.hid hbw
            clear hd1 hd2 hrow hbw
            go_wp2_with fail
            refine K.out.mono ?_
            rintro e w3 ⟨rfl, g3⟩
            have W3 := W0.keep g3
            have b3 := gtrans b2 g3
            have m3 := (m2.below g3 (Nat.le_refl _)).grow g3.size
            have rs3 := (rs2.below g3 (Nat.le_refl _)).grow g3.size
            have hlt3 : wo.heap.size < w3.heap.size := W3.lt
            clear x0 x1 x2 x3 x4 hgl W0 m2 rs2 K g3
            obtain ⟨x0, x1, x2, x3, x4, hgl⟩ := W3.five
            have hcv : ∃ b7 o7, a7 = some ⟨b7, o7, none⟩ ∧ b7 < w3.heap.size ∧ w3.cell? ⟨b7, o7 + j, none⟩ = some (.int .i64 v) := by
              rcases HS7.out.below b3 (Nat.le_refl _) with h | ⟨b7, o7, e, hlt, hcc⟩
              · have := congrArg List.length h
                unfold iCells at this
                rw [List.length_map, List.length_nil] at this
                omega
              · have := b3.size
                exact ⟨b7, o7, e, by omega, hcc j _ (by rw [← HVv.out]; exact iCells_at A j hjA)⟩
            obtain ⟨b7, o7, rfl, hb7, hv7⟩ := hcv
            have hadd : IntKind.i64.wrap (y.b.seq + (y.b.l.length : Int)) = y.b.seq + (y.b.l.length : Int) := IntWalk.i64_in _ (by omega)
            have hadd2 : wrap64 (y.b.seq + (y.b.l.length : Int)) = y.b.seq + (y.b.l.length : Int) := IntWalk.wrap64_in _ (by omega)
            by_cases hbig : 1099511627776 < y.b.seq + (y.b.l.length : Int)
            · go_wp2_with fail
              go_roundw
              case rel => exact ⟨z + 1, by omega, by omega, by go_num, b3⟩
              case measure => simp [intOf]; omega
            · have HDn := Lib.hid (HD2.out (by omega))
              obtain ⟨b', hb'⟩ : ∃ b' : Bat, b' = { y.b with seq := y.b.seq + y.b.l.length } := ⟨_, rfl⟩
              have W4 := W3.set 3 (.int .i64 (y.b.seq + (y.b.l.length : Int)))
              have s4 := (Below.refl w1.heap.size w3).setCell (p := ⟨wo.heap.size, 3, none⟩) hbz (.int .i64 (y.b.seq + (y.b.l.length : Int)))
              have f3 := W3.frozen 3
              have hbw' : BatWf b' := by rw [hb']; exact ⟨HBw.out.k, HBw.out.p, HBw.out.e, by show I64 (y.b.seq + (y.b.l.length : Int)); unfold I64; omega, HBw.out.r⟩
              have W4' : Whole (w3.setCell ⟨wo.heap.size, 3, none⟩ (.int .i64 (y.b.seq + (y.b.l.length : Int)))) wo.heap.size 25 (bvc b' y.a y.c) := by rw [hb']; exact W4
              go_upto_region 20 with fail
              obtain ⟨w4, hw4⟩ : ∃ w4, w4 = w3.setCell ⟨wo.heap.size, 3, none⟩ (.int .i64 (y.b.seq + (y.b.l.length : Int))) := ⟨_, rfl⟩
              rw [← hw4] at W4' s4
              rw [← hw4]
              clear hw4 W4 x0 x1 x2 x3 x4 hgl f3
              have b4 := b3.trans s4
              have m4 := (HS8.out.below b4 (Nat.le_refl _)).grow b4.size
              have rs4 := (hrs.below (gtrans HB1.out b4) (Nat.le_refl _)).grow (gtrans HB1.out b4).size
              have hlb : b'.l = y.b.l := by rw [hb']
              have K2 := Lib.hid (dlook_walk R p a8 c8 w4.heap.size b' y.a y.c w4 r 0 false 0 true HPp.out (by omega) (by rw [hlb]; unfold maxLen; omega) hbw' ⟨hrs1, hrn1⟩ (by rw [hb']; exact HRow.out) (by rw [hb']; exact HDn.out) m4 (by rw [hlb]; exact rs4) (Nat.le_refl _))
              unfold LkPost at K2
              obtain ⟨x0, x1, x2, x3, x4, hgl⟩ := W4'.five
              clear hb' hlb hbw'
              go_wp2_with fail
              refine K2.out.mono ?_
              rintro e w5 ⟨rfl, g5⟩
              have b5 := gtrans b4 g5
              go_wp2_with fail
              go_roundw
              case rel => exact ⟨z + 1, by omega, by omega, by go_num, b5⟩
              case measure => simp [intOf]; omega
    · have hz8i : ¬ (z : Int) ≤ 8 := by omega
      go_wp2_with fail
      refine (awake7_walk _).mono ?_
      rintro e w2 ⟨rfl, g2⟩
      go_wp2_with fail
      go_ret
      exact ⟨rfl, gtrans (gtrans HB1.out hb) g2⟩
end Go.Proofs.Ytfjnmjibifefgaa
