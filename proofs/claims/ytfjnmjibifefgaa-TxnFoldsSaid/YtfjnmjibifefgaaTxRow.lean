/- The walk of headgateref12.Row; what a note does to epochs. -/
import Derived.Test.YtfjnmjibifefgaaTxBeh
import Derived.Test.YtfjnmjibifefgaaWhole
namespace Go.Proofs.Ytfjnmjibifefgaa
open Go.RowKit Vm
set_option linter.unusedVariables false

/-- A producer's row, or none. -/
def RowIs (l : List Tr) (pid : Int) (X : Tr) (E : Int) : Prop := (getR trKey l pid = some X ∧ E = 0) ∨ (getR trKey l pid = none ∧ X = tr0 ∧ E = 3)
theorem rowIs_ex (l : List Tr) (pid : Int) : ∃ X E, RowIs l pid X E := by
  cases h : getR trKey l pid with
  | some x => exact ⟨x, 0, .inl ⟨h, rfl⟩⟩
  | none => exact ⟨tr0, 3, .inr ⟨h, rfl, rfl⟩⟩
def RrPost (w : World) (X : Tr) (E : Int) (e : Ending) (w' : World) : Prop := e = .returned (.tuple #[.agg #[.int .i64 X.p, .int .i64 X.e, .int .i64 X.s, .int .i64 X.m, .int .i64 X.l], .int .i64 E]) ∧ Below w.heap.size w w'
set_option maxRecDepth 100000 in
set_option maxHeartbeats 4000000 in
theorem rrow_walk (l : List Tr) (N : Nat) (a : Option Addr) (c B : Nat) (pid : Int) (w : World) (X : Tr) (E : Int) (hN : l.length = N) (hNm : N ≤ 2000) (hX : RowIs l pid X E) (h : Sl w B a (trCells l)) (hB : B ≤ w.heap.size) :
    Calls Try.prog 34 #[.slice a N c, .int .i64 pid] w (RrPost w X E) := by
  have HX := Lib.hid hX
  have HNe := Lib.hid hN
  clear hX hN
  have hal : Below w.heap.size w (w.alloc (.cells #[.int .i64 0, .int .i64 0, .int .i64 0, .int .i64 0, .int .i64 0] 52)) := balloc _ _
  have hWh := Whole.new w 52 #[.int .i64 0, .int .i64 0, .int .i64 0, .int .i64 0, .int .i64 0]
  have h' := h.below hal hB
  have hzz : w.heap.size < (w.alloc (.cells #[.int .i64 0, .int .i64 0, .int .i64 0, .int .i64 0, .int .i64 0] 52)).heap.size := by simp
  go_enter Try.func34, Try.ntmps34
  go_wp2_with fail
  obtain ⟨w0, hw0⟩ : ∃ w0, w0 = w.alloc (.cells #[.int .i64 0, .int .i64 0, .int .i64 0, .int .i64 0, .int .i64 0] 52) := ⟨_, rfl⟩
  rw [← hw0] at hal hWh h' hzz ⊢
  have e0 := hWh.cell 0
  have e1 := hWh.cell 1
  have e2 := hWh.cell 2
  have e3 := hWh.cell 3
  have e4 := hWh.cell 4
  simp only [List.getElem?_toArray, List.getElem?_cons_zero, List.getElem?_cons_succ] at e0 e1 e2 e3 e4
  have f0 := hWh.frozen 0
  have f1 := hWh.frozen 1
  have f2 := hWh.frozen 2
  have f3 := hWh.frozen 3
  have f4 := hWh.frozen 4
  have HW0 := Lib.hid hw0
  clear hw0
  go_loop [6] (fun I => ∃ k : Nat, k ≤ N ∧ I = .int .i64 k ∧ Hid (∀ p, p < k → trKey (l.getD p tr0) ≠ pid)) (fun I => N - (intOf I).toNat)
  case atStart => exact ⟨0, by omega, rfl, Lib.hid (fun p hp => by omega)⟩
  case round =>
    obtain ⟨k, hk, rfl, HL⟩ := hrel
    by_cases hlt : k < N
    · have hil : k < l.length := by rw [HNe.out]; exact hlt
      obtain ⟨b1, o1, rfl, hb1, hc⟩ := h'.tr (by omega)
      obtain ⟨r0, r1, r2, r3, r4⟩ := hc k hil
      have hzb : b1 < w0.heap.size := by omega
      have hne : b1 ≠ w.heap.size := by omega
      by_cases he : (l.getD k tr0).p = pid
      · have hg := getR_hit trKey tr0 HL.out hil he
        obtain ⟨rfl, rfl⟩ : X = l.getD k tr0 ∧ E = 0 := by
          rcases HX.out with ⟨h1, h2⟩ | ⟨h1, _⟩
          · rw [hg] at h1; injection h1 with h1; exact ⟨h1.symm, h2⟩
          · rw [hg] at h1; cases h1
        clear hc hg
        generalize l.getD k tr0 = x at *
        obtain ⟨xp, xe, xs, xm, xl⟩ := x
        simp only at r0 r1 r2 r3 r4 he
        subst he
        go_wp2_with fail
        refine bodyPost_ret (v := .tuple #[.agg #[.int .i64 xp, .int .i64 xe, .int .i64 xs, .int .i64 xm, .int .i64 xl], .int .i64 0]) (by simp [results, Try.results34, go_sem, e0, e1, e2, e3, e4]) rfl ⟨rfl, ?_⟩
        exact ((((hal.setCell (p := ⟨w.heap.size, 0, none⟩) (Nat.le_refl _) _).setCell (p := ⟨w.heap.size, 1, none⟩) (Nat.le_refl _) _).setCell (p := ⟨w.heap.size, 2, none⟩) (Nat.le_refl _) _).setCell (p := ⟨w.heap.size, 3, none⟩) (Nat.le_refl _) _).setCell (p := ⟨w.heap.size, 4, none⟩) (Nat.le_refl _) _
      · have HL2 := Lib.hid (show ∀ p, p < k + 1 → trKey (l.getD p tr0) ≠ pid from fun p hp => by
          rcases Nat.lt_or_ge p k with h1 | h1
          · exact HL.out p h1
          · rw [show p = k from by omega]; exact he)
        have hq : ((l.getD k tr0).p == pid) = false := beq_eq_false_iff_ne.2 he
        clear hc HL
        generalize l.getD k tr0 = x at *
        obtain ⟨xp, xe, xs, xm, xl⟩ := x
        simp only at r0 r1 r2 r3 r4 he hq
        go_wp2_with fail
        go_round
        case rel => exact ⟨k + 1, by omega, by go_num, HL2⟩
        case measure => simp [intOf]; omega
    · have hg := getR_miss trKey tr0 (fun p hp => HL.out p (by have := HNe.out; omega))
      obtain ⟨rfl, rfl⟩ : X = tr0 ∧ E = 3 := by
        rcases HX.out with ⟨h1, h2⟩ | ⟨_, h1, h2⟩
        · rw [hg] at h1; cases h1
        · exact ⟨h1, h2⟩
      clear hg
      go_wp2_with fail
      refine bodyPost_ret (v := .tuple #[.agg #[.int .i64 0, .int .i64 0, .int .i64 0, .int .i64 0, .int .i64 0], .int .i64 3]) (by simp [results, Try.results34, go_sem, e0, e1, e2, e3, e4]) rfl ⟨rfl, ?_⟩
      exact ((((hal.setCell (p := ⟨w.heap.size, 0, none⟩) (Nat.le_refl _) _).setCell (p := ⟨w.heap.size, 1, none⟩) (Nat.le_refl _) _).setCell (p := ⟨w.heap.size, 2, none⟩) (Nat.le_refl _) _).setCell (p := ⟨w.heap.size, 3, none⟩) (Nat.le_refl _) _).setCell (p := ⟨w.heap.size, 4, none⟩) (Nat.le_refl _) _
/-- What a note does to the rows of producers. -/
theorem fd_row {l D : List Tr} {k p m pid EX EY : Int} {X Y : Tr} (hF : FdIs l k p m D 0) (hX : RowIs l pid X EX) (hY : RowIs D pid Y EY) :
    (pid ≠ p → X = Y) ∧ (pid = p → ((k = 1 ∨ k = 5) → Y.e = X.e + 1) ∧ (¬ (k = 1 ∨ k = 5) → Y.e = X.e)) ∧ X.e ≤ 1099511627776 ∧ 0 ≤ X.e := by
  have hR : RightT l := by
    rcases hF with ⟨_, _, h⟩ | ⟨hg, _⟩ | ⟨hg, _⟩
    · omega
    · exact hg.2
    · exact hg.2
  have hs := ascR_srt trKey tr0 (rightT_asc hR)
  have hXe : X.e ≤ 1099511627776 ∧ 0 ≤ X.e := by
    rcases hX with ⟨h1, _⟩ | ⟨_, rfl, _⟩
    · obtain ⟨hm, _⟩ := getR_some trKey h1
      obtain ⟨q, hq, hqe⟩ := List.getElem_of_mem hm
      have := hR q hq
      unfold OkT at this
      rw [show l.getD q tr0 = X by rw [← hqe]; simp [List.getD, List.getElem?_eq_getElem hq]] at this
      omega
    · simp [tr0]
  refine ⟨?_, ?_, hXe⟩
  · intro hne
    have key : ∀ y : Tr, y.p = p → D = putR trKey l y → X = Y := fun y hy hD => by
      have hg : getR trKey D pid = getR trKey l pid := by
        rw [hD, getR_put trKey l y pid hs, if_neg (show ¬ trKey y = pid from fun h => hne (by rw [← hy]; exact h.symm))]
      rcases hX with ⟨h1, _⟩ | ⟨h1, rfl, _⟩ <;> rcases hY with ⟨h2, _⟩ | ⟨h2, rfl, _⟩
      · rw [hg, h1] at h2; injection h2
      · rw [hg, h1] at h2; cases h2
      · rw [hg, h1] at h2; cases h2
      · rfl
    rcases hF with ⟨_, _, h⟩ | ⟨_, _, ⟨_, _, h⟩ | ⟨_, hD, _⟩⟩ | ⟨_, x, hx, ⟨_, _, h⟩ | ⟨y, hy, ⟨_, _, h⟩ | ⟨_, hD, _⟩⟩⟩
    · omega
    · omega
    · exact key _ rfl hD
    · omega
    · omega
    · exact key y ((turnT_key hy).trans (getR_some trKey hx).2) hD
  · intro he
    subst he
    rcases hF with ⟨_, _, h⟩ | ⟨_, hn, ⟨_, _, h⟩ | ⟨hk, hD, _⟩⟩ | ⟨hgm, x, hx, ⟨_, _, h⟩ | ⟨y, hy, ⟨_, _, h⟩ | ⟨_, hD, _⟩⟩⟩
    · omega
    · omega
    · have hg : getR trKey D pid = some ⟨pid, 1, 1, 0, 0⟩ := by rw [hD, getR_put trKey l _ pid hs, if_pos (show trKey ⟨pid, 1, 1, 0, 0⟩ = pid from rfl)]
      obtain rfl : X = tr0 := by
        rcases hX with ⟨h1, _⟩ | ⟨_, h1, _⟩
        · rw [hn] at h1; cases h1
        · exact h1
      obtain rfl : Y = ⟨pid, 1, 1, 0, 0⟩ := by
        rcases hY with ⟨h1, _⟩ | ⟨h1, _⟩
        · rw [hg] at h1; injection h1 with h1; exact h1.symm
        · rw [hg] at h1; cases h1
      exact ⟨fun _ => rfl, fun h => absurd (.inl hk) h⟩
    · omega
    · omega
    · have hyp : trKey y = pid := (turnT_key hy).trans (getR_some trKey hx).2
      have hg : getR trKey D pid = some y := by rw [hD, getR_put trKey l _ pid hs, if_pos hyp]
      obtain rfl : X = x := by
        rcases hX with ⟨h1, _⟩ | ⟨h1, _⟩
        · rw [hx] at h1; injection h1 with h1; exact h1.symm
        · rw [hx] at h1; cases h1
      obtain rfl : Y = y := by
        rcases hY with ⟨h1, _⟩ | ⟨h1, _⟩
        · rw [hg] at h1; injection h1 with h1; exact h1.symm
        · rw [hg] at h1; cases h1
      unfold turnT at hy
      refine ⟨fun h => ?_, fun h => ?_⟩
      · rcases h with rfl | rfl
        · simp only [if_true] at hy
          split at hy
          · injection hy with hy; subst hy; rfl
          · cases hy
        · simp at hy
          obtain ⟨_, hy⟩ := hy
          subst hy; rfl
      · have hk15 := hgm.1.1
        repeat' split at hy
        all_goals first | (exfalso; omega) | (injection hy with hy; subst hy; rfl) | cases hy
end Go.Proofs.Ytfjnmjibifefgaa
