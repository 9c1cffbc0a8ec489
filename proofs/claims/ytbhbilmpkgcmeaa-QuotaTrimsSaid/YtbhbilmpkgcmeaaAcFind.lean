/- The walk of slices.BinarySearchFunc at []api.Account, by cmp.Compare of a number of each. -/
import Derived.Test.YtbhbilmpkgcmeaaAc
import Derived.Test.YtbhbilmpkgcmeaaPutR
import Derived.Test.YtbhbilmpkgcmeaaCmp
namespace Go.Proofs.Ytbhbilmpkgcmeaa
open Go.RowKit Vm
set_option linter.unusedVariables false

def acKey (x : Ac) : Int := x.o
set_option maxRecDepth 100000 in
set_option maxHeartbeats 1000000 in
theorem cmp_ac (x : Ac) (b : Int) (w : World) :
    Calls Try.prog 64 #[.agg #[.int .i64 x.o, .int .i64 x.l, .int .i64 x.s], .int .i64 b] w fun e w' => e = .returned (.int .i64 (cmpI x.o b)) ∧ Below w.heap.size w w' := by
  have hal := balloc w (.cells #[.int .i64 x.o, .int .i64 x.l, .int .i64 x.s] 102)
  go_enter Try.func64, Try.ntmps64
  go_wp2_with (go_at_call 65; refine (compare_walk _ _ _).mono ?_; rintro e w' ⟨rfl, rfl⟩)
  go_ret
  exact ⟨rfl, hal⟩
def FPost_ac (l : List Ac) (N : Nat) (b : Int) (w : World) (e : Ending) (w' : World) : Prop :=
  ∃ (i : Nat) (f : Bool), AtR acKey ac0 l b i ∧ (f = true ↔ i < N ∧ acKey (l.getD i ac0) = b) ∧ e = .returned (.tuple #[.int .i64 i, .bool f]) ∧ Below w.heap.size w w'
set_option maxRecDepth 100000 in
set_option maxHeartbeats 4000000 in
theorem find_ac (l : List Ac) (N : Nat) (a : Option Addr) (c B : Nat) (b : Int) (w : World) (hN : l.length = N) (hlen : N ≤ 2000) (hp : AscR acKey ac0 l) (h : Sl w B a (acCells l)) (hB : B ≤ w.heap.size) :
    Calls Try.prog 63 #[.slice a N c, .int .i64 b, .func (.func 64) #[] #[]] w (FPost_ac l N b w) := by
  have HP := Lib.hid hp
  clear hp
  go_enter Try.func63, Try.ntmps63
  go_wp2_with fail
  go_loopw [9, 10] (fun I J wr => ∃ i j : Nat, I = .int .i64 i ∧ J = .int .i64 j ∧ i ≤ j ∧ j ≤ N ∧ Hid (∀ p, p < i → acKey (l.getD p ac0) < b) ∧ Hid (∀ p, j ≤ p → p < N → b ≤ acKey (l.getD p ac0)) ∧ Below w.heap.size w wr) (fun I J _ => (intOf J).toNat - (intOf I).toNat)
  case atStart => exact ⟨0, N, rfl, rfl, by omega, by omega, Lib.hid (fun p hp => by omega), Lib.hid (fun p h1 h2 => by omega), Below.refl _ _⟩
  case round =>
    obtain ⟨i, j, rfl, rfl, hij, hjN, H1, H2, hbw⟩ := hrel
    by_cases hlt : i < j
    · have hmj : (i + j) / 2 < N := by omega
      have hml : (i + j) / 2 < j := by omega
      have hmi : i ≤ (i + j) / 2 := by omega
      obtain ⟨b1, o1, rfl, hb1, hc⟩ := (h.below hbw hB).ac (by omega)
      obtain ⟨r0, r1, r2⟩ := hc ((i + j) / 2) (by omega)
      have hz1 : b1 < wr.heap.size := by have := hbw.size; omega
      have HLT := Lib.hid (fun p (hp : p < (i + j) / 2) => HP.out p _ hp (by omega : (i + j) / 2 < l.length))
      have HGT := Lib.hid (fun q (hq : (i + j) / 2 < q) (hql : q < l.length) => HP.out _ q hq hql)
      clear hc
      have hm2 : (((i + j) / 2 : Nat) : Int) = ((i : Int) + (j : Int)) / 2 := by omega
      generalize hx : l.getD ((i + j) / 2) ac0 = x at *
      have HX := Lib.hid hx
      clear hx
      have HC := Lib.hid (fun W => cmp_ac x b W)
      by_cases hlb : x.o < b
      · have hcv : cmpI x.o b = -1 := by unfold cmpI; rw [if_pos hlb]
        rw [hcv] at HC
        have HN1 := Lib.hid (show ∀ p, p < (i + j) / 2 + 1 → acKey (l.getD p ac0) < b from fun p hp => by
          rcases Nat.lt_or_ge p ((i + j) / 2) with h1 | h1
          · have := HLT.out p h1; unfold acKey at *; omega
          · rw [show p = (i + j) / 2 from by omega, HX.out]; exact hlb)
        have hw1 : IntKind.i64.wrap (((i : Int) + (j : Int)) / 2 + 1) = (((i + j) / 2 + 1 : Nat) : Int) := by rw [IntWalk.i64_in _ (by omega)]; omega
        clear hcv
        go_wp2_with fail
        refine (HC.out _).mono ?_
        rintro e w2 ⟨rfl, g2⟩
        go_wp2_with fail
        go_roundw
        case rel => exact ⟨(i + j) / 2 + 1, j, by first | rfl | (congr 1; omega), rfl, by omega, hjN, HN1, H2, hbw.trans (g2.mono hbw.size)⟩
        case measure => simp [intOf]; omega
      · have hcv : 0 ≤ cmpI x.o b := by unfold cmpI; rw [if_neg hlb]; split <;> omega
        generalize cmpI x.o b = cv at *
        have HN2 := Lib.hid (show ∀ p, (i + j) / 2 ≤ p → p < N → b ≤ acKey (l.getD p ac0) from fun p hp hpN => by
          rcases Nat.lt_or_ge ((i + j) / 2) p with h1 | h1
          · have := HGT.out p h1 (by omega); unfold acKey at *; omega
          · rw [show p = (i + j) / 2 from by omega, HX.out]; unfold acKey; omega)
        have hcv2 : ¬ cv < 0 := by omega
        go_wp2_with fail
        refine (HC.out _).mono ?_
        rintro e w2 ⟨rfl, g2⟩
        go_wp2_with fail
        go_roundw
        case rel => exact ⟨i, (i + j) / 2, rfl, by first | rfl | (congr 1; omega), hmi, by omega, H1, HN2, hbw.trans (g2.mono hbw.size)⟩
        case measure => simp [intOf]; omega
    · obtain rfl : i = j := by omega
      have hAt : AtR acKey ac0 l b i := ⟨by omega, H1.out, fun p h1 h2 => H2.out p h1 (by omega)⟩
      by_cases hiN : i < N
      · obtain ⟨b1, o1, rfl, hb1, hc⟩ := (h.below hbw hB).ac (by omega)
        obtain ⟨r0, r1, r2⟩ := hc i (by omega)
        have hz1 : b1 < wr.heap.size := by have := hbw.size; omega
        clear hc
        have HA := Lib.hid hAt
        generalize hx : l.getD i ac0 = x at *
        have HX := Lib.hid hx
        clear hx hAt
        have HC := Lib.hid (fun W => cmp_ac x b W)
        by_cases heq : x.o = b
        · have hcv : cmpI x.o b = 0 := by unfold cmpI; rw [if_neg (by omega), if_neg (by omega)]
          rw [hcv] at HC
          have HQ := Lib.hid heq
          clear hcv heq
          go_wp2_with fail
          refine (HC.out _).mono ?_
          rintro e w2 ⟨rfl, g2⟩
          go_wp2_with fail
          go_ret2
          exact ⟨i, true, HA.out, ⟨fun _ => ⟨hiN, by rw [HX.out]; exact HQ.out⟩, fun _ => rfl⟩, by first | rfl | simp, hbw.trans (g2.mono hbw.size)⟩
        · have hcv : ¬ cmpI x.o b = 0 := by unfold cmpI; split; omega; rw [if_pos (by omega)]; omega
          generalize cmpI x.o b = cv at *
          go_wp2_with fail
          refine (HC.out _).mono ?_
          rintro e w2 ⟨rfl, g2⟩
          go_wp2_with fail
          go_ret2
          exact ⟨i, false, HA.out, ⟨fun h => (by cases h), fun h => by have h2 := h.2; rw [HX.out] at h2; exact absurd h2 heq⟩, by first | rfl | simp [hcv], hbw.trans (g2.mono hbw.size)⟩
      · go_wp2_with fail
        go_ret2
        exact ⟨i, false, hAt, ⟨fun h => (by cases h), fun h => absurd h.1 hiN⟩, by first | rfl | simp [hiN], hbw⟩
end Go.Proofs.Ytbhbilmpkgcmeaa
