/- The walk of headgateref07.Row. -/
import Derived.Test.YtfjnmjibifefgaaDdIdx
namespace Go.Proofs.Ytfjnmjibifefgaa
open Go.RowKit Vm
set_option linter.unusedVariables false
set_option linter.unusedSimpArgs false

/-- A producer's row, or none. -/
def RowP (l : List Pr) (pid : Int) (X : Pr) (E : Bool) : Prop := (getR prKey l pid = some X ∧ E = true) ∨ (getR prKey l pid = none ∧ X = ⟨pid, 0, 0, 0, 0⟩ ∧ E = false)
theorem rowP_ex (l : List Pr) (pid : Int) : ∃ X E, RowP l pid X E := by
  cases h : getR prKey l pid with
  | some x => exact ⟨x, true, .inl ⟨h, rfl⟩⟩
  | none => exact ⟨⟨pid, 0, 0, 0, 0⟩, false, .inr ⟨h, rfl, rfl⟩⟩
def RdPost (w : World) (X : Pr) (E : Bool) (e : Ending) (w' : World) : Prop := e = .returned (.tuple #[.agg #[.int .i64 X.p, .int .i64 X.e, .int .i64 X.s, .int .i64 X.n, .int .i64 X.b], .bool E]) ∧ Below w.heap.size w w'
set_option maxRecDepth 100000 in
set_option maxHeartbeats 4000000 in
theorem rdrow_walk (l : List Pr) (N : Nat) (a : Option Addr) (c B : Nat) (pid : Int) (w : World) (X : Pr) (E : Bool) (hN : l.length = N) (hNm : N ≤ 2000) (hX : RowP l pid X E) (h : Sl w B a (prCells l)) (hB : B ≤ w.heap.size) :
    Calls Try.prog 23 #[.slice a N c, .int .i64 pid] w (RdPost w X E) := by
  have HX := Lib.hid hX
  have HNe := Lib.hid hN
  clear hX hN
  have hal : Below w.heap.size w (w.alloc (.cells #[.int .i64 0, .int .i64 0, .int .i64 0, .int .i64 0, .int .i64 0] 44)) := balloc _ _
  have hWh := Whole.new w 44 #[.int .i64 0, .int .i64 0, .int .i64 0, .int .i64 0, .int .i64 0]
  have h' := h.below hal hB
  have hzz : w.heap.size < (w.alloc (.cells #[.int .i64 0, .int .i64 0, .int .i64 0, .int .i64 0, .int .i64 0] 44)).heap.size := by simp
  go_enter Try.func23, Try.ntmps23
  go_wp2_with fail
  obtain ⟨w0, hw0⟩ : ∃ w0, w0 = w.alloc (.cells #[.int .i64 0, .int .i64 0, .int .i64 0, .int .i64 0, .int .i64 0] 44) := ⟨_, rfl⟩
  rw [← hw0] at hal hWh h' hzz ⊢
  have e0 := hWh.cell 0
  have e1 := hWh.cell 1
  have e2 := hWh.cell 2
  have e3 := hWh.cell 3
  have e4 := hWh.cell 4
  simp only [List.getElem?_toArray, List.getElem?_cons_zero, List.getElem?_cons_succ] at e0 e1 e2 e3 e4
  have f0 := hWh.frozen 0
  have f1 := hWh.frozen 1
  have f2 := hWh.frozen 2
  have f3 := hWh.frozen 3
  have f4 := hWh.frozen 4
  have HW0 := Lib.hid hw0
  clear hw0
  go_loop [6] (fun I => ∃ k : Nat, k ≤ N ∧ I = .int .i64 k ∧ Hid (∀ p, p < k → prKey (l.getD p pr0) ≠ pid)) (fun I => N - (intOf I).toNat)
  case atStart => exact ⟨0, by omega, rfl, Lib.hid (fun p hp => by omega)⟩
  case round =>
    obtain ⟨k, hk, rfl, HL⟩ := hrel
    by_cases hlt : k < N
    · have hil : k < l.length := by rw [HNe.out]; exact hlt
      obtain ⟨b1, o1, rfl, hb1, hc⟩ := h'.pr (by omega)
      obtain ⟨r0, r1, r2, r3, r4⟩ := hc k hil
      have hzb : b1 < w0.heap.size := by omega
      have hne : b1 ≠ w.heap.size := by omega
      by_cases he : (l.getD k pr0).p = pid
      · have hg := getR_hit prKey pr0 HL.out hil he
        obtain ⟨rfl, rfl⟩ : X = l.getD k pr0 ∧ E = true := by
          rcases HX.out with ⟨h1, h2⟩ | ⟨h1, _⟩
          · rw [hg] at h1; injection h1 with h1; exact ⟨h1.symm, h2⟩
          · rw [hg] at h1; cases h1
        clear hc hg
        generalize l.getD k pr0 = x at *
        obtain ⟨xp, xe, xs, xn, xb⟩ := x
        simp only at r0 r1 r2 r3 r4 he
        subst he
        go_wp2_with fail
        refine bodyPost_ret (v := .tuple #[.agg #[.int .i64 xp, .int .i64 xe, .int .i64 xs, .int .i64 xn, .int .i64 xb], .bool true]) (by simp [results, Try.results23, go_sem, e0, e1, e2, e3, e4]) rfl ⟨rfl, ?_⟩
        exact ((((hal.setCell (p := ⟨w.heap.size, 0, none⟩) (Nat.le_refl _) _).setCell (p := ⟨w.heap.size, 1, none⟩) (Nat.le_refl _) _).setCell (p := ⟨w.heap.size, 2, none⟩) (Nat.le_refl _) _).setCell (p := ⟨w.heap.size, 3, none⟩) (Nat.le_refl _) _).setCell (p := ⟨w.heap.size, 4, none⟩) (Nat.le_refl _) _
      · have HL2 := Lib.hid (show ∀ p, p < k + 1 → prKey (l.getD p pr0) ≠ pid from fun p hp => by
          rcases Nat.lt_or_ge p k with h1 | h1
          · exact HL.out p h1
          · rw [show p = k from by omega]; exact he)
        have hq : ((l.getD k pr0).p == pid) = false := beq_eq_false_iff_ne.2 he
        clear hc HL
        generalize l.getD k pr0 = x at *
        obtain ⟨xp, xe, xs, xn, xb⟩ := x
        simp only at r0 r1 r2 r3 r4 he hq
        go_wp2_with fail
        go_round
        case rel => exact ⟨k + 1, by omega, by go_num, HL2⟩
        case measure => simp [intOf]; omega
    · have hg := getR_miss prKey pr0 (fun p hp => HL.out p (by have := HNe.out; omega))
      obtain ⟨rfl, rfl⟩ : X = ⟨pid, 0, 0, 0, 0⟩ ∧ E = false := by
        rcases HX.out with ⟨h1, h2⟩ | ⟨_, h1, h2⟩
        · rw [hg] at h1; cases h1
        · exact ⟨h1, h2⟩
      clear hg
      go_wp2_with fail
      refine bodyPost_ret (v := .tuple #[.agg #[.int .i64 pid, .int .i64 0, .int .i64 0, .int .i64 0, .int .i64 0], .bool false]) (by simp [results, Try.results23, go_sem, e0, e1, e2, e3, e4]) rfl ⟨rfl, ?_⟩
      exact ((((hal.setCell (p := ⟨w.heap.size, 0, none⟩) (Nat.le_refl _) _).setCell (p := ⟨w.heap.size, 1, none⟩) (Nat.le_refl _) _).setCell (p := ⟨w.heap.size, 2, none⟩) (Nat.le_refl _) _).setCell (p := ⟨w.heap.size, 3, none⟩) (Nat.le_refl _) _).setCell (p := ⟨w.heap.size, 4, none⟩) (Nat.le_refl _) _
end Go.Proofs.Ytfjnmjibifefgaa
