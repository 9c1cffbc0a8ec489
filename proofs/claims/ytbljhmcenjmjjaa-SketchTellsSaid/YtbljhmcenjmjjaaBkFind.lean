/- The walks of slices.BinarySearchFunc and slices.Clone at buckets. -/
import Derived.Test.YtbljhmcenjmjjaaBkDec
namespace Go.Proofs.Ytbljhmcenjmjjaa
open Go.RowKit Vm Sk
set_option linter.unusedVariables false

set_option maxRecDepth 100000 in
set_option maxHeartbeats 1000000 in
theorem cmp_walk (xb xn b : Int) (w : World) (h : -9223372036854775808 ≤ xb - b ∧ xb - b ≤ 9223372036854775807) :
    Calls Try.prog 48 #[.agg #[.int .i64 xb, .int .i64 xn], .int .i64 b] w fun e w' => e = .returned (.int .i64 (xb - b)) ∧ Below w.heap.size w w' := by
  have hw : IntKind.i64.wrap (xb - b) = xb - b := IntWalk.i64_in _ h
  have hal : Below w.heap.size w (w.alloc (.cells #[.int .i64 xb, .int .i64 xn] 63)) := below_alloc _ _
  go_enter Try.func48, Try.ntmps48
  go_wp2_with fail
  go_ret
  exact ⟨rfl, hal⟩

/-- Where a bucket stands, or would. -/
def At (l : List Bk) (b : Int) (i : Nat) : Prop := i ≤ l.length ∧ (∀ p, p < i → (l.getD p bk0).b < b) ∧ ∀ p, i ≤ p → p < l.length → b ≤ (l.getD p bk0).b
theorem pre_lt {l : List Bk} (h : Pre l l.length) {p q : Nat} (hpq : p < q) (hq : q < l.length) : (l.getD p bk0).b < (l.getD q bk0).b := by
  induction q with
  | zero => omega
  | succ q ih =>
    have h1 := (h (q + 1) hq).2.2.2.2 (by omega)
    rw [show q + 1 - 1 = q from by omega] at h1
    rcases Nat.lt_or_ge p q with h2 | h2
    · have := ih h2 (by omega); omega
    · rw [show p = q from by omega]; exact h1

set_option maxRecDepth 100000 in
set_option maxHeartbeats 4000000 in
theorem bsearch_walk (l : List Bk) (N : Nat) (a : Option Addr) (c B : Nat) (b : Int) (w : World) (hN : l.length = N) (hlen : N ≤ 2000) (hp : Pre l l.length) (hb : -960 ≤ b ∧ b < 960) (h : Sl w B a (bkCells l)) (hB : B ≤ w.heap.size) :
    Calls Try.prog 47 #[.slice a N c, .int .i64 b, .func (.func 48) #[] #[]] w fun e w' => ∃ (i : Nat) (f : Bool), At l b i ∧ (f = true ↔ i < N ∧ (l.getD i bk0).b = b) ∧ e = .returned (.tuple #[.int .i64 i, .bool f]) ∧ Below w.heap.size w w' := by
  have HP := Lib.hid hp
  clear hp
  go_enter Try.func47, Try.ntmps47
  go_wp2_with fail
  go_loopw [9, 10] (fun I J wr => ∃ i j : Nat, I = .int .i64 i ∧ J = .int .i64 j ∧ i ≤ j ∧ j ≤ N ∧ Hid (∀ p, p < i → (l.getD p bk0).b < b) ∧ Hid (∀ p, j ≤ p → p < N → b ≤ (l.getD p bk0).b) ∧ Below w.heap.size w wr) (fun I J _ => (intOf J).toNat - (intOf I).toNat)
  case atStart => exact ⟨0, N, rfl, rfl, by omega, by omega, Lib.hid (fun p hp => by omega), Lib.hid (fun p h1 h2 => by omega), Below.refl _ _⟩
  case round =>
    obtain ⟨i, j, rfl, rfl, hij, hjN, H1, H2, hbw⟩ := hrel
    by_cases hlt : i < j
    · have hmj : (i + j) / 2 < N := by omega
      have hml : (i + j) / 2 < j := by omega
      have hmi : i ≤ (i + j) / 2 := by omega
      obtain ⟨b1, o1, rfl, hb1, hc⟩ := (h.below hbw hB).bk (by omega)
      obtain ⟨r0, r1⟩ := hc ((i + j) / 2) (by omega)
      have hz1 : b1 < wr.heap.size := by have := hbw.size; omega
      have hr := HP.out ((i + j) / 2) (by omega)
      have hr1 := hr.1
      have hr2 := hr.2.1
      have HLT := Lib.hid (fun p (hp : p < (i + j) / 2) => pre_lt HP.out hp (by omega : (i + j) / 2 < l.length))
      have HGT := Lib.hid (fun q (hq : (i + j) / 2 < q) (hql : q < l.length) => pre_lt HP.out hq hql)
      clear hc hr
      have hm2 : (((i + j) / 2 : Nat) : Int) = ((i : Int) + (j : Int)) / 2 := by omega
      generalize hx : l.getD ((i + j) / 2) bk0 = x at *
      have HX := Lib.hid hx
      obtain ⟨xb, xn⟩ := x
      simp only at r0 r1 hr1 hr2 HLT HGT
      clear hx
      have HC := Lib.hid (fun W => cmp_walk xb xn b W ⟨by omega, by omega⟩)
      by_cases hlb : xb - b < 0
      · have HN1 := Lib.hid (show ∀ p, p < (i + j) / 2 + 1 → (l.getD p bk0).b < b from fun p hp => by
          rcases Nat.lt_or_ge p ((i + j) / 2) with h1 | h1
          · have := HLT.out p h1; omega
          · rw [show p = (i + j) / 2 from by omega, HX.out]; simp only; omega)
        have hw1 : IntKind.i64.wrap (((i : Int) + (j : Int)) / 2 + 1) = (((i + j) / 2 + 1 : Nat) : Int) := by rw [IntWalk.i64_in _ (by omega)]; omega
        go_wp2_with fail
        refine (HC.out _).mono ?_
        rintro e w2 ⟨rfl, g2⟩
        go_wp2_with fail
        go_roundw
        case rel => exact ⟨(i + j) / 2 + 1, j, by first | rfl | (congr 1; omega), rfl, by omega, hjN, HN1, H2, hbw.trans (g2.mono hbw.size)⟩
        case measure => simp [intOf]; omega
      · have HN2 := Lib.hid (show ∀ p, (i + j) / 2 ≤ p → p < N → b ≤ (l.getD p bk0).b from fun p hp hpN => by
          rcases Nat.lt_or_ge ((i + j) / 2) p with h1 | h1
          · have := HGT.out p h1 (by omega); omega
          · rw [show p = (i + j) / 2 from by omega, HX.out]; simp only; omega)
        go_wp2_with fail
        refine (HC.out _).mono ?_
        rintro e w2 ⟨rfl, g2⟩
        go_wp2_with fail
        go_roundw
        case rel => exact ⟨i, (i + j) / 2, rfl, by first | rfl | (congr 1; omega), hmi, by omega, H1, HN2, hbw.trans (g2.mono hbw.size)⟩
        case measure => simp [intOf]; omega
    · obtain rfl : i = j := by omega
      have hAt : At l b i := ⟨by omega, H1.out, fun p h1 h2 => H2.out p h1 (by omega)⟩
      by_cases hiN : i < N
      · obtain ⟨b1, o1, rfl, hb1, hc⟩ := (h.below hbw hB).bk (by omega)
        obtain ⟨r0, r1⟩ := hc i (by omega)
        have hz1 : b1 < wr.heap.size := by have := hbw.size; omega
        have hr := HP.out i (by omega)
        have hr1 := hr.1
        have hr2 := hr.2.1
        clear hc hr
        have HA := Lib.hid hAt
        generalize hx : l.getD i bk0 = x at *
        have HX := Lib.hid hx
        obtain ⟨xb, xn⟩ := x
        simp only at r0 r1 hr1 hr2
        clear hx hAt
        have HC := Lib.hid (fun W => cmp_walk xb xn b W ⟨by omega, by omega⟩)
        by_cases heq : xb - b = 0
        · go_wp2_with fail
          refine (HC.out _).mono ?_
          rintro e w2 ⟨rfl, g2⟩
          go_wp2_with fail
          go_ret2
          exact ⟨i, true, HA.out, ⟨fun _ => ⟨hiN, by rw [HX.out]; simp only; omega⟩, fun _ => rfl⟩, by first | rfl | simp [heq], hbw.trans (g2.mono hbw.size)⟩
        · go_wp2_with fail
          refine (HC.out _).mono ?_
          rintro e w2 ⟨rfl, g2⟩
          go_wp2_with fail
          go_ret2
          exact ⟨i, false, HA.out, ⟨fun h => (by cases h), fun h => by have h2 := h.2; rw [HX.out] at h2; simp only at h2; omega⟩, by first | rfl | simp [heq], hbw.trans (g2.mono hbw.size)⟩
      · go_wp2_with fail
        go_ret2
        exact ⟨i, false, hAt, ⟨fun h => (by cases h), fun h => absurd h.1 hiN⟩, by first | rfl | simp [hiN], hbw⟩
end Go.Proofs.Ytbljhmcenjmjjaa
