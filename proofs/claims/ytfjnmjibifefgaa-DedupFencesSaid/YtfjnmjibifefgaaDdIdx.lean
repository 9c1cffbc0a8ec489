/- The walks of slices.IndexFunc at rows of producers, by dedup.find$1 and dedup.insert$1; dedup.find. -/
import Derived.Test.YtfjnmjibifefgaaPr
import Derived.Test.YtfjnmjibifefgaaWhole
import Derived.Test.YtfjnmjibifefgaaPutR
import Derived.Test.YtfjnmjibifefgaaKit
import Derived.BigQuiet
namespace Go.Proofs.Ytfjnmjibifefgaa
open Go.RowKit Vm
set_option linter.unusedVariables false
set_option linter.unusedSimpArgs false

def prKey (r : Pr) : Int := r.p
set_option maxRecDepth 100000 in
set_option maxHeartbeats 1000000 in
theorem df1_walk (x : Pr) (pb : Nat) (pid : Int) (w : World) (b : Bool) (hb : (x.p == pid) = b) (hp : w.cell? ⟨pb, 0, none⟩ = some (.int .i64 pid)) :
    Calls Try.prog 70 #[.agg #[.int .i64 x.p, .int .i64 x.e, .int .i64 x.s, .int .i64 x.n, .int .i64 x.b], .pointer (some ⟨pb, 0, none⟩)] w fun e w' => e = .returned (.bool b) ∧ Below w.heap.size w w' := by
  have hal := balloc w (.cells #[.int .i64 x.p, .int .i64 x.e, .int .i64 x.s, .int .i64 x.n, .int .i64 x.b] 44)
  have hpb := cell_lt hp
  simp only at hpb
  go_enter Try.func70, Try.ntmps70
  go_wp2_with fail
  go_ret
  exact ⟨by first | rfl | (rw [← hb]; rfl) | (rw [hb]), hal⟩
def IxfPost (l : List Pr) (N : Nat) (pid : Int) (w : World) (e : Ending) (w' : World) : Prop :=
  (∃ k : Nat, k < N ∧ Hid (∀ p, p < k → prKey (l.getD p pr0) ≠ pid) ∧ Hid (prKey (l.getD k pr0) = pid) ∧ e = .returned (.int .i64 k) ∧ Below w.heap.size w w') ∨
  (Hid (∀ p, p < N → prKey (l.getD p pr0) ≠ pid) ∧ e = .returned (.int .i64 (-1)) ∧ Below w.heap.size w w')
set_option maxRecDepth 100000 in
set_option maxHeartbeats 4000000 in
theorem didxf_walk (l : List Pr) (N : Nat) (a : Option Addr) (c B pb : Nat) (pid : Int) (w : World) (hN : l.length = N) (hNm : N ≤ 2000) (hp : w.cell? ⟨pb, 0, none⟩ = some (.int .i64 pid)) (h : Sl w B a (prCells l)) (hB : B ≤ w.heap.size) :
    Calls Try.prog 69 #[.slice a N c, .func (.func 70) #[] #[.pointer (some ⟨pb, 0, none⟩)]] w (IxfPost l N pid w) := by
  have HNe := Lib.hid hN
  have hpb := cell_lt hp
  simp only at hpb
  clear hN
  go_enter Try.func69, Try.ntmps69
  go_wp2_with fail
  go_loopw [8] (fun I wr => ∃ k : Nat, k ≤ N ∧ I = .int .i64 k ∧ Hid (∀ p, p < k → prKey (l.getD p pr0) ≠ pid) ∧ Below w.heap.size w wr) (fun I _ => N - (intOf I).toNat)
  case atStart => exact ⟨0, by omega, rfl, Lib.hid (fun p hp => by omega), Below.refl _ _⟩
  case round =>
    obtain ⟨k, hk, rfl, HL, hbw⟩ := hrel
    by_cases hlt : k < N
    · have hil : k < l.length := by rw [HNe.out]; exact hlt
      obtain ⟨b1, o1, rfl, hb1, hc⟩ := (h.below hbw hB).pr (by omega)
      obtain ⟨r0, r1, r2, r3, r4⟩ := hc k hil
      have hp2 : wr.cell? ⟨pb, 0, none⟩ = some (.int .i64 pid) := (hbw.cell (p := ⟨pb, 0, none⟩) hpb).trans hp
      have hz1 : b1 < wr.heap.size := by have := hbw.size; omega
      by_cases he : prKey (l.getD k pr0) = pid
      · have HC := Lib.hid (df1_walk (l.getD k pr0) pb pid wr true (by first | exact decide_eq_true he | (unfold prKey at he; rw [he]; exact beq_self_eq_true _)) hp2)
        have HE := Lib.hid he
        clear hc he hp2
        generalize hx : l.getD k pr0 = x at *
        have HX := Lib.hid hx
        clear hx
        obtain ⟨xp, xe, xs, xn, xb⟩ := x
        simp only at r0 r1 r2 r3 r4 HC
        go_wp2_with fail
        refine HC.out.mono ?_
        rintro e w5 ⟨rfl, g5⟩
        have b5 := hbw.trans (g5.mono hbw.size)
        go_wp2_with fail
        go_ret
        exact .inl ⟨k, hlt, HL, Lib.hid (by rw [HX.out]; exact HE.out), rfl, b5⟩
      · have HC := Lib.hid (df1_walk (l.getD k pr0) pb pid wr false (by first | exact decide_eq_false he | exact beq_eq_false_iff_ne.2 he) hp2)
        have HL2 := Lib.hid (show ∀ p, p < k + 1 → prKey (l.getD p pr0) ≠ pid from fun p hp => by
          rcases Nat.lt_or_ge p k with h1 | h1
          · exact HL.out p h1
          · rw [show p = k from by omega]; first | exact he | omega)
        clear hc he hp2
        generalize l.getD k pr0 = x at *
        obtain ⟨xp, xe, xs, xn, xb⟩ := x
        simp only at r0 r1 r2 r3 r4 HC
        go_wp2_with fail
        refine HC.out.mono ?_
        rintro e w5 ⟨rfl, g5⟩
        have b5 := hbw.trans (g5.mono hbw.size)
        go_wp2_with fail
        go_roundw
        case rel => exact ⟨k + 1, by omega, by go_num, HL2, b5⟩
        case measure => simp [intOf]; omega
    · obtain rfl : k = N := by omega
      go_wp2_with fail
      go_ret
      exact .inr ⟨HL, rfl, hbw⟩
set_option maxRecDepth 100000 in
set_option maxHeartbeats 1000000 in
theorem di1_walk (x : Pr) (pb : Nat) (pid : Int) (w : World) (b : Bool) (hb : decide (pid < x.p) = b) (hp : w.cell? ⟨pb, 0, none⟩ = some (.int .i64 pid)) :
    Calls Try.prog 71 #[.agg #[.int .i64 x.p, .int .i64 x.e, .int .i64 x.s, .int .i64 x.n, .int .i64 x.b], .pointer (some ⟨pb, 0, none⟩)] w fun e w' => e = .returned (.bool b) ∧ Below w.heap.size w w' := by
  have hal := balloc w (.cells #[.int .i64 x.p, .int .i64 x.e, .int .i64 x.s, .int .i64 x.n, .int .i64 x.b] 44)
  have hpb := cell_lt hp
  simp only at hpb
  go_enter Try.func71, Try.ntmps71
  go_wp2_with fail
  go_ret
  exact ⟨by first | rfl | (rw [← hb]; rfl) | (rw [hb]), hal⟩
def IxiPost (l : List Pr) (N : Nat) (pid : Int) (w : World) (e : Ending) (w' : World) : Prop :=
  (∃ k : Nat, k < N ∧ Hid (∀ p, p < k → prKey (l.getD p pr0) ≤ pid) ∧ Hid (pid < prKey (l.getD k pr0)) ∧ e = .returned (.int .i64 k) ∧ Below w.heap.size w w') ∨
  (Hid (∀ p, p < N → prKey (l.getD p pr0) ≤ pid) ∧ e = .returned (.int .i64 (-1)) ∧ Below w.heap.size w w')
set_option maxRecDepth 100000 in
set_option maxHeartbeats 4000000 in
theorem didxi_walk (l : List Pr) (N : Nat) (a : Option Addr) (c B pb : Nat) (pid : Int) (w : World) (hN : l.length = N) (hNm : N ≤ 2000) (hp : w.cell? ⟨pb, 0, none⟩ = some (.int .i64 pid)) (h : Sl w B a (prCells l)) (hB : B ≤ w.heap.size) :
    Calls Try.prog 69 #[.slice a N c, .func (.func 71) #[] #[.pointer (some ⟨pb, 0, none⟩)]] w (IxiPost l N pid w) := by
  have HNe := Lib.hid hN
  have hpb := cell_lt hp
  simp only at hpb
  clear hN
  go_enter Try.func69, Try.ntmps69
  go_wp2_with fail
  go_loopw [8] (fun I wr => ∃ k : Nat, k ≤ N ∧ I = .int .i64 k ∧ Hid (∀ p, p < k → prKey (l.getD p pr0) ≤ pid) ∧ Below w.heap.size w wr) (fun I _ => N - (intOf I).toNat)
  case atStart => exact ⟨0, by omega, rfl, Lib.hid (fun p hp => by omega), Below.refl _ _⟩
  case round =>
    obtain ⟨k, hk, rfl, HL, hbw⟩ := hrel
    by_cases hlt : k < N
    · have hil : k < l.length := by rw [HNe.out]; exact hlt
      obtain ⟨b1, o1, rfl, hb1, hc⟩ := (h.below hbw hB).pr (by omega)
      obtain ⟨r0, r1, r2, r3, r4⟩ := hc k hil
      have hp2 : wr.cell? ⟨pb, 0, none⟩ = some (.int .i64 pid) := (hbw.cell (p := ⟨pb, 0, none⟩) hpb).trans hp
      have hz1 : b1 < wr.heap.size := by have := hbw.size; omega
      by_cases he : pid < prKey (l.getD k pr0)
      · have HC := Lib.hid (di1_walk (l.getD k pr0) pb pid wr true (by first | exact decide_eq_true he | (unfold prKey at he; rw [he]; exact beq_self_eq_true _)) hp2)
        have HE := Lib.hid he
        clear hc he hp2
        generalize hx : l.getD k pr0 = x at *
        have HX := Lib.hid hx
        clear hx
        obtain ⟨xp, xe, xs, xn, xb⟩ := x
        simp only at r0 r1 r2 r3 r4 HC
        go_wp2_with fail
        refine HC.out.mono ?_
        rintro e w5 ⟨rfl, g5⟩
        have b5 := hbw.trans (g5.mono hbw.size)
        go_wp2_with fail
        go_ret
        exact .inl ⟨k, hlt, HL, Lib.hid (by rw [HX.out]; exact HE.out), rfl, b5⟩
      · have HC := Lib.hid (di1_walk (l.getD k pr0) pb pid wr false (by first | exact decide_eq_false he | exact beq_eq_false_iff_ne.2 he) hp2)
        have HL2 := Lib.hid (show ∀ p, p < k + 1 → prKey (l.getD p pr0) ≤ pid from fun p hp => by
          rcases Nat.lt_or_ge p k with h1 | h1
          · exact HL.out p h1
          · rw [show p = k from by omega]; first | exact he | omega)
        clear hc he hp2
        generalize l.getD k pr0 = x at *
        obtain ⟨xp, xe, xs, xn, xb⟩ := x
        simp only at r0 r1 r2 r3 r4 HC
        go_wp2_with fail
        refine HC.out.mono ?_
        rintro e w5 ⟨rfl, g5⟩
        have b5 := hbw.trans (g5.mono hbw.size)
        go_wp2_with fail
        go_roundw
        case rel => exact ⟨k + 1, by omega, by go_num, HL2, b5⟩
        case measure => simp [intOf]; omega
    · obtain rfl : k = N := by omega
      go_wp2_with fail
      go_ret
      exact .inr ⟨HL, rfl, hbw⟩
set_option maxRecDepth 100000 in
set_option maxHeartbeats 4000000 in
theorem dfind_walk (l : List Pr) (N : Nat) (a : Option Addr) (c B : Nat) (pid : Int) (w : World) (hN : l.length = N) (hNm : N ≤ 2000) (h : Sl w B a (prCells l)) (hB : B ≤ w.heap.size) :
    Calls Try.prog 42 #[.slice a N c, .int .i64 pid] w (IxfPost l N pid w) := by
  have hal := balloc w (.cells #[.int .i64 pid] 3)
  have hpc : (w.alloc (.cells #[.int .i64 pid] 3)).cell? ⟨w.heap.size, 0, none⟩ = some (.int .i64 pid) := by
    rw [World.cell?_alloc_at _ _ _ _ rfl]; rfl
  have h' := h.below hal hB
  have HI := Lib.hid (didxf_walk l N a c B w.heap.size pid _ hN hNm hpc h' (Nat.le_trans hB hal.size))
  unfold IxfPost at HI ⊢
  clear hN hpc h h'
  go_enter Try.func42, Try.ntmps42
  go_wp2_with fail
  refine HI.out.mono ?_
  rintro e w1 (⟨k, hk, HL, HE, rfl, g1⟩ | ⟨HL, rfl, g1⟩)
  · go_wp2_with fail
    go_ret
    exact .inl ⟨k, hk, HL, HE, rfl, gtrans hal g1⟩
  · go_wp2_with fail
    go_ret
    exact .inr ⟨HL, rfl, gtrans hal g1⟩
end Go.Proofs.Ytfjnmjibifefgaa
