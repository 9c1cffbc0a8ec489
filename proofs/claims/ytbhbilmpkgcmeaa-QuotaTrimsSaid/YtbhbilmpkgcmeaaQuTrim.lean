/- quota.Trim: its closure, slices.IndexFunc and slices.DeleteFunc by it. -/
import Derived.Test.YtbhbilmpkgcmeaaQuTake
import Derived.Test.YtbhbilmpkgcmeaaWhole
import Derived.Deep.RegionHeld3
import Derived.Deep.Cut
import Derived.Lib.SliceRun
import Derived.Lib.LazyBuf
namespace Go.Proofs.Ytbhbilmpkgcmeaa
open Go.RowKit Vm
set_option linter.unusedVariables false
set_option linter.unusedSimpArgs false

def Caps (w : World) (pb nb : Nat) (t m now : Int) : Prop := w.cell? ⟨pb, 0, none⟩ = some (.int .i64 t) ∧ w.cell? ⟨pb, 1, none⟩ = some (.int .i64 m) ∧ w.cell? ⟨nb, 0, none⟩ = some (.int .i64 now)
theorem Caps.keep {w w' : World} {pb nb B : Nat} {t m now : Int} (h : Caps w pb nb t m now) (hb : Below B w w') (h1 : pb < B) (h2 : nb < B) : Caps w' pb nb t m now :=
  ⟨(hb.cell (p := ⟨pb, 0, none⟩) h1).trans h.1, (hb.cell (p := ⟨pb, 1, none⟩) h1).trans h.2.1, (hb.cell (p := ⟨nb, 0, none⟩) h2).trans h.2.2⟩
theorem Caps.lt {w : World} {pb nb : Nat} {t m now : Int} (h : Caps w pb nb t m now) : pb < w.heap.size ∧ nb < w.heap.size := by
  have h1 := cell_lt h.1
  have h2 := cell_lt h.2.2
  exact ⟨h1, h2⟩
theorem held6 {w1 w3 w4 : World} {pb nb g : Nat} {v0 v1 v2 c0 c1 c2 : Value} (h : w3.cell? ⟨pb, 0, none⟩ = some v0 ∧ w3.cell? ⟨pb, 1, none⟩ = some v1 ∧ w3.cell? ⟨nb, 0, none⟩ = some v2 ∧ w3.cell? ⟨g, 0, none⟩ = some c0 ∧ w3.cell? ⟨g, 1, none⟩ = some c1 ∧ w3.cell? ⟨g, 2, none⟩ = some c2 ∧ Below w1.heap.size w1 w3) (hb : Below w3.heap.size w3 w4) :
    w4.cell? ⟨pb, 0, none⟩ = some v0 ∧ w4.cell? ⟨pb, 1, none⟩ = some v1 ∧ w4.cell? ⟨nb, 0, none⟩ = some v2 ∧ w4.cell? ⟨g, 0, none⟩ = some c0 ∧ w4.cell? ⟨g, 1, none⟩ = some c1 ∧ w4.cell? ⟨g, 2, none⟩ = some c2 ∧ Below w1.heap.size w1 w4 := by
  obtain ⟨h0, h1, h2, h3, h4, h5, h6⟩ := h
  exact ⟨(hb.cell (cell_lt h0)).trans h0, (hb.cell (cell_lt h1)).trans h1, (hb.cell (cell_lt h2)).trans h2, (hb.cell (cell_lt h3)).trans h3, (hb.cell (cell_lt h4)).trans h4, (hb.cell (cell_lt h5)).trans h5, gtrans h6 hb⟩
/-- What a trimming asks of one account. -/
def AcOk (m now : Int) (x : Ac) : Prop := (0 ≤ x.l ∧ x.l ≤ m) ∧ (0 ≤ x.s ∧ x.s ≤ now)
set_option maxRecDepth 100000 in
set_option maxHeartbeats 2000000 in
theorem qfull_walk (t m now : Int) (x : Ac) (pb nb : Nat) (w : World) (b : Bool) (hb : (availQ t m x now == m) = b) (ht : MayQ t m) (hx : AcOk m now x) (hn : now ≤ 1099511627776) (hC : Caps w pb nb t m now) :
    Calls Try.prog 71 #[.agg #[.int .i64 x.o, .int .i64 x.l, .int .i64 x.s], .pointer (some ⟨pb, 0, none⟩), .pointer (some ⟨nb, 0, none⟩)] w fun e w' => e = .returned (.bool b) ∧ Below w.heap.size w w' := by
  have HAV := Lib.hid (fun w => avail_walk t m x now w ht hx.1 hx.2 hn)
  have hal := balloc w (.cells #[.int .i64 x.o, .int .i64 x.l, .int .i64 x.s] 102)
  have X1 := Whole.new w 102 #[.int .i64 x.o, .int .i64 x.l, .int .i64 x.s]
  obtain ⟨hp, hnb⟩ := hC.lt
  have C1 := hC.keep hal hp hnb
  clear ht hx hn hC
  go_enter Try.func71, Try.ntmps71
  go_upto_region 1 with fail
  obtain ⟨w1, hw1⟩ : ∃ w1, w1 = w.alloc (.cells #[.int .i64 x.o, .int .i64 x.l, .int .i64 x.s] 102) := ⟨_, rfl⟩
  rw [← hw1] at hal X1 C1 ⊢
  clear hw1
  obtain ⟨c0, c1, c2⟩ := C1
  have x0 := X1.cell 0
  have x1 := X1.cell 1
  have x2 := X1.cell 2
  simp only [List.getElem?_toArray, List.getElem?_cons_zero, List.getElem?_cons_succ] at x0 x1 x2
  have hS0 : w1.drew.cell? ⟨pb, 0, none⟩ = some (.int .i64 t) ∧ w1.drew.cell? ⟨pb, 1, none⟩ = some (.int .i64 m) ∧ w1.drew.cell? ⟨nb, 0, none⟩ = some (.int .i64 now) ∧ w1.drew.cell? ⟨w.heap.size, 0, none⟩ = some (.int .i64 x.o) ∧ w1.drew.cell? ⟨w.heap.size, 1, none⟩ = some (.int .i64 x.l) ∧ w1.drew.cell? ⟨w.heap.size, 2, none⟩ = some (.int .i64 x.s) ∧ Below w1.heap.size w1 w1.drew := ⟨c0, c1, c2, x0, x1, x2, (Below.refl _ _).drew⟩
  generalize availQ t m x now = av at *
  go_wp2_with fail
  go_region_held3 (fun w' => w'.cell? ⟨pb, 0, none⟩ = some (.int .i64 t) ∧ w'.cell? ⟨pb, 1, none⟩ = some (.int .i64 m) ∧ w'.cell? ⟨nb, 0, none⟩ = some (.int .i64 now) ∧ w'.cell? ⟨w.heap.size, 0, none⟩ = some (.int .i64 x.o) ∧ w'.cell? ⟨w.heap.size, 1, none⟩ = some (.int .i64 x.l) ∧ w'.cell? ⟨w.heap.size, 2, none⟩ = some (.int .i64 x.s) ∧ Below w1.heap.size w1 w')
    (with_reducible assumption)
    (first | (go_at_call 67; refine (HAV.out _).mono ?_; rintro e w5 ⟨rfl, g5⟩; have y := held6 (by with_reducible assumption) g5))
  obtain ⟨_, _, _, _, _, _, e6⟩ := y
  go_wp2_with fail
  go_ret
  exact ⟨by first | rfl | (rw [← hb]; rfl) | (rw [hb]), gtrans hal e6⟩
def FullQ (t m now : Int) (x : Ac) : Prop := availQ t m x now = m
def IxqPost (t m now : Int) (l : List Ac) (N : Nat) (w : World) (e : Ending) (w' : World) : Prop :=
  (∃ k : Nat, k < N ∧ Hid (∀ p, p < k → ¬ FullQ t m now (l.getD p ac0)) ∧ Hid (FullQ t m now (l.getD k ac0)) ∧ e = .returned (.int .i64 k) ∧ Below w.heap.size w w') ∨
  (Hid (∀ p, p < N → ¬ FullQ t m now (l.getD p ac0)) ∧ e = .returned (.int .i64 (-1)) ∧ Below w.heap.size w w')
set_option maxRecDepth 100000 in
set_option maxHeartbeats 4000000 in
theorem qidx_walk (t m now : Int) (l : List Ac) (N : Nat) (a : Option Addr) (c B pb nb : Nat) (w : World) (hN : l.length = N) (hNm : N ≤ 64) (ht : MayQ t m) (hx : ∀ x ∈ l, AcOk m now x) (hn : now ≤ 1099511627776) (hC : Caps w pb nb t m now) (h : Sl w B a (acCells l)) (hB : B ≤ w.heap.size) :
    Calls Try.prog 87 #[.slice a N c, .func (.func 71) #[] #[.pointer (some ⟨pb, 0, none⟩), .pointer (some ⟨nb, 0, none⟩)]] w (IxqPost t m now l N w) := by
  have HNe := Lib.hid hN
  have HX := Lib.hid hx
  have HC := Lib.hid hC
  have HT := Lib.hid ht
  obtain ⟨hp, hnb⟩ := hC.lt
  clear hN hx hC ht
  go_enter Try.func87, Try.ntmps87
  go_wp2_with fail
  go_loopw [8] (fun I wr => ∃ k : Nat, k ≤ N ∧ I = .int .i64 k ∧ Hid (∀ p, p < k → ¬ FullQ t m now (l.getD p ac0)) ∧ Below w.heap.size w wr) (fun I _ => N - (intOf I).toNat)
  case atStart => exact ⟨0, by omega, rfl, Lib.hid (fun p hp => by omega), Below.refl _ _⟩
  case round =>
    obtain ⟨k, hk, rfl, HL, hbw⟩ := hrel
    by_cases hlt : k < N
    · have hil : k < l.length := by rw [HNe.out]; exact hlt
      obtain ⟨b1, o1, rfl, hb1, hc⟩ := (h.below hbw hB).ac (by omega)
      obtain ⟨r0, r1, r2⟩ := hc k hil
      have hok := HX.out _ (getD_mem l ac0 k hil)
      have C2 := HC.out.keep hbw hp hnb
      have hz1 : b1 < wr.heap.size := by have := hbw.size; omega
      by_cases he : FullQ t m now (l.getD k ac0)
      · have HF := Lib.hid (qfull_walk t m now (l.getD k ac0) pb nb wr true (by unfold FullQ at he; rw [he]; exact beq_self_eq_true _) HT.out hok hn C2)
        have HE := Lib.hid he
        clear hc he C2 hok
        generalize hx : l.getD k ac0 = x at *
        have HX := Lib.hid hx
        clear hx
        obtain ⟨xo, xl, xs⟩ := x
        simp only at r0 r1 r2 HF
        go_wp2_with fail
        refine HF.out.mono ?_
        rintro e w5 ⟨rfl, g5⟩
        have b5 := hbw.trans (g5.mono hbw.size)
        go_wp2_with fail
        go_ret
        exact .inl ⟨k, hlt, HL, Lib.hid (by rw [HX.out]; exact HE.out), rfl, b5⟩
      · have HF := Lib.hid (qfull_walk t m now (l.getD k ac0) pb nb wr false (beq_eq_false_iff_ne.2 he) HT.out hok hn C2)
        have HL2 := Lib.hid (show ∀ p, p < k + 1 → ¬ FullQ t m now (l.getD p ac0) from fun p hp => by
          rcases Nat.lt_or_ge p k with h1 | h1
          · exact HL.out p h1
          · rw [show p = k from by omega]; exact he)
        clear hc he C2 hok
        generalize l.getD k ac0 = x at *
        obtain ⟨xo, xl, xs⟩ := x
        simp only at r0 r1 r2 HF
        go_wp2_with fail
        refine HF.out.mono ?_
        rintro e w5 ⟨rfl, g5⟩
        have b5 := hbw.trans (g5.mono hbw.size)
        go_wp2_with fail
        go_roundw
        case rel => exact ⟨k + 1, by omega, by go_num, HL2, b5⟩
        case measure => simp [intOf]; omega
    · obtain rfl : k = N := by omega
      go_wp2_with fail
      go_ret
      exact .inr ⟨HL, rfl, hbw⟩
end Go.Proofs.Ytbhbilmpkgcmeaa
