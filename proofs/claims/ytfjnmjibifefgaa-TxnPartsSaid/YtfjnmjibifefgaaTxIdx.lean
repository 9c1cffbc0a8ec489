/- The walks of slices.IndexFunc at rows of transactions, txn.Row. -/
import Derived.Test.YtfjnmjibifefgaaTxRow
namespace Go.Proofs.Ytfjnmjibifefgaa
open Go.RowKit Vm
set_option linter.unusedVariables false

set_option maxRecDepth 100000 in
set_option maxHeartbeats 1000000 in
theorem trow1_walk (x : Tr) (pb : Nat) (pid : Int) (w : World) (b : Bool) (hb : (x.p == pid) = b) (hp : w.cell? ⟨pb, 0, none⟩ = some (.int .i64 pid)) :
    Calls Try.prog 66 #[.agg #[.int .i64 x.p, .int .i64 x.e, .int .i64 x.s, .int .i64 x.m, .int .i64 x.l], .pointer (some ⟨pb, 0, none⟩)] w fun e w' => e = .returned (.bool b) ∧ Below w.heap.size w w' := by
  have hal := balloc w (.cells #[.int .i64 x.p, .int .i64 x.e, .int .i64 x.s, .int .i64 x.m, .int .i64 x.l] 52)
  have hpb := cell_lt hp
  simp only at hpb
  go_enter Try.func66, Try.ntmps66
  go_wp2_with fail
  go_ret
  exact ⟨rfl, hal⟩
def IxPost (l : List Tr) (N : Nat) (pid : Int) (w : World) (e : Ending) (w' : World) : Prop :=
  (∃ k : Nat, k < N ∧ Hid (∀ p, p < k → trKey (l.getD p tr0) ≠ pid) ∧ Hid (trKey (l.getD k tr0) = pid) ∧ e = .returned (.int .i64 k) ∧ Below w.heap.size w w') ∨
  (Hid (∀ p, p < N → trKey (l.getD p tr0) ≠ pid) ∧ e = .returned (.int .i64 (-1)) ∧ Below w.heap.size w w')
set_option maxRecDepth 100000 in
set_option maxHeartbeats 4000000 in
theorem tidx_walk (l : List Tr) (N : Nat) (a : Option Addr) (c B pb : Nat) (pid : Int) (w : World) (hN : l.length = N) (hNm : N ≤ 2000) (hp : w.cell? ⟨pb, 0, none⟩ = some (.int .i64 pid)) (h : Sl w B a (trCells l)) (hB : B ≤ w.heap.size) :
    Calls Try.prog 65 #[.slice a N c, .func (.func 66) #[] #[.pointer (some ⟨pb, 0, none⟩)]] w (IxPost l N pid w) := by
  have HNe := Lib.hid hN
  have hpb := cell_lt hp
  simp only at hpb
  clear hN
  go_enter Try.func65, Try.ntmps65
  go_wp2_with fail
  go_loopw [8] (fun I wr => ∃ k : Nat, k ≤ N ∧ I = .int .i64 k ∧ Hid (∀ p, p < k → trKey (l.getD p tr0) ≠ pid) ∧ Below w.heap.size w wr) (fun I _ => N - (intOf I).toNat)
  case atStart => exact ⟨0, by omega, rfl, Lib.hid (fun p hp => by omega), Below.refl _ _⟩
  case round =>
    obtain ⟨k, hk, rfl, HL, hbw⟩ := hrel
    by_cases hlt : k < N
    · have hil : k < l.length := by rw [HNe.out]; exact hlt
      obtain ⟨b1, o1, rfl, hb1, hc⟩ := (h.below hbw hB).tr (by omega)
      obtain ⟨r0, r1, r2, r3, r4⟩ := hc k hil
      have hp2 : wr.cell? ⟨pb, 0, none⟩ = some (.int .i64 pid) := (hbw.cell (p := ⟨pb, 0, none⟩) hpb).trans hp
      have hz1 : b1 < wr.heap.size := by have := hbw.size; omega
      by_cases he : (l.getD k tr0).p = pid
      · have HC := Lib.hid (trow1_walk (l.getD k tr0) pb pid wr true (by rw [he]; exact beq_self_eq_true _) hp2)
        have HE := Lib.hid (show trKey (l.getD k tr0) = pid from he)
        clear hc he hp2
        generalize hx : l.getD k tr0 = x at *
        have HX := Lib.hid hx
        clear hx
        obtain ⟨xp, xe, xs, xm, xl⟩ := x
        simp only at r0 r1 r2 r3 r4 HC
        go_wp2_with fail
        refine HC.out.mono ?_
        rintro e w5 ⟨rfl, g5⟩
        have b5 := hbw.trans (g5.mono hbw.size)
        go_wp2_with fail
        go_ret
        exact .inl ⟨k, hlt, HL, Lib.hid (by rw [HX.out]; exact HE.out), rfl, b5⟩
      · have HC := Lib.hid (trow1_walk (l.getD k tr0) pb pid wr false (beq_eq_false_iff_ne.2 he) hp2)
        have HL2 := Lib.hid (show ∀ p, p < k + 1 → trKey (l.getD p tr0) ≠ pid from fun p hp => by
          rcases Nat.lt_or_ge p k with h1 | h1
          · exact HL.out p h1
          · rw [show p = k from by omega]; exact he)
        clear hc he hp2
        generalize l.getD k tr0 = x at *
        obtain ⟨xp, xe, xs, xm, xl⟩ := x
        simp only at r0 r1 r2 r3 r4 HC
        go_wp2_with fail
        refine HC.out.mono ?_
        rintro e w5 ⟨rfl, g5⟩
        have b5 := hbw.trans (g5.mono hbw.size)
        go_wp2_with fail
        go_roundw
        case rel => exact ⟨k + 1, by omega, by go_num, HL2, b5⟩
        case measure => simp [intOf]; omega
    · obtain rfl : k = N := by omega
      go_wp2_with fail
      go_ret
      exact .inr ⟨HL, rfl, hbw⟩
set_option maxRecDepth 100000 in
set_option maxHeartbeats 4000000 in
theorem trow_walk (l : List Tr) (N : Nat) (a : Option Addr) (c B : Nat) (pid : Int) (w : World) (X : Tr) (E : Int) (hN : l.length = N) (hNm : N ≤ 2000) (hX : RowIs l pid X E) (h : Sl w B a (trCells l)) (hB : B ≤ w.heap.size) :
    Calls Try.prog 36 #[.slice a N c, .int .i64 pid] w (RrPost w X E) := by
  have hal0 := balloc w (.cells #[.int .i64 pid] 3)
  have hz0 : (w.alloc (.cells #[.int .i64 pid] 3)).heap.size = w.heap.size + 1 := by simp
  have hal1 := balloc (w.alloc (.cells #[.int .i64 pid] 3)) (.cells #[.int .i64 0, .int .i64 0, .int .i64 0, .int .i64 0, .int .i64 0] 52)
  have hWh := Whole.new (w.alloc (.cells #[.int .i64 pid] 3)) 52 #[.int .i64 0, .int .i64 0, .int .i64 0, .int .i64 0, .int .i64 0]
  rw [hz0] at hWh
  have hal := gtrans hal0 hal1
  have hpc : ((w.alloc (.cells #[.int .i64 pid] 3)).alloc (.cells #[.int .i64 0, .int .i64 0, .int .i64 0, .int .i64 0, .int .i64 0] 52)).cell? ⟨w.heap.size, 0, none⟩ = some (.int .i64 pid) := by
    rw [hal1.cell (p := ⟨w.heap.size, 0, none⟩) (by show w.heap.size < _; rw [hz0]; omega), World.cell?_alloc_at _ _ _ _ rfl]; rfl
  have h' := h.below hal hB
  have hzz : w.heap.size + 1 < ((w.alloc (.cells #[.int .i64 pid] 3)).alloc (.cells #[.int .i64 0, .int .i64 0, .int .i64 0, .int .i64 0, .int .i64 0] 52)).heap.size := by simp
  have HX := Lib.hid hX
  have HNe := Lib.hid hN
  have HI := Lib.hid (tidx_walk l N a c B w.heap.size pid _ hN hNm hpc h' (by omega))
  unfold IxPost at HI
  clear hX hN hal0 hal1 hz0 hpc
  go_enter Try.func36, Try.ntmps36
  go_wp2_with fail
  refine HI.out.mono ?_
  generalize (w.alloc (.cells #[.int .i64 pid] 3)).alloc (.cells #[.int .i64 0, .int .i64 0, .int .i64 0, .int .i64 0, .int .i64 0] 52) = w0 at *
  rintro e w1 (⟨k, hk, HL, HE, rfl, g1⟩ | ⟨HL, rfl, g1⟩)
  all_goals
    have hWh1 := hWh.keep g1
    have e0 := hWh1.cell 0
    have e1 := hWh1.cell 1
    have e2 := hWh1.cell 2
    have e3 := hWh1.cell 3
    have e4 := hWh1.cell 4
    simp only [List.getElem?_toArray, List.getElem?_cons_zero, List.getElem?_cons_succ] at e0 e1 e2 e3 e4
    have f0 := hWh1.frozen 0
    have f1 := hWh1.frozen 1
    have f2 := hWh1.frozen 2
    have f3 := hWh1.frozen 3
    have f4 := hWh1.frozen 4
    have b1 := gtrans hal g1
    have hz1 : w.heap.size + 1 < w1.heap.size := by have := g1.size; omega
  · have hil : k < l.length := by rw [HNe.out]; exact hk
    have hg := getR_hit trKey tr0 HL.out hil HE.out
    obtain ⟨rfl, rfl⟩ : X = l.getD k tr0 ∧ E = 0 := by
      rcases HX.out with ⟨h1, h2⟩ | ⟨h1, _⟩
      · rw [hg] at h1; injection h1 with h1; exact ⟨h1.symm, h2⟩
      · rw [hg] at h1; cases h1
    have hB1 : B ≤ w0.heap.size := by omega
    obtain ⟨b2, o2, rfl, hb2, hc⟩ := (h'.below g1 hB1).tr (by omega)
    obtain ⟨r0, r1, r2, r3, r4⟩ := hc k hil
    have hzb : b2 < w1.heap.size := by omega
    have hne : b2 ≠ w.heap.size + 1 := by omega
    clear hc hg HL HE HX
    generalize l.getD k tr0 = x at *
    obtain ⟨xp, xe, xs, xm, xl⟩ := x
    simp only at r0 r1 r2 r3 r4
    go_wp2_with fail
    refine bodyPost_ret (v := .tuple #[.agg #[.int .i64 xp, .int .i64 xe, .int .i64 xs, .int .i64 xm, .int .i64 xl], .int .i64 0]) (by simp [results, Try.results36, go_sem, e0, e1, e2, e3, e4]) rfl ⟨rfl, ?_⟩
    exact ((((b1.setCell (p := ⟨w.heap.size + 1, 0, none⟩) (Nat.le_succ _) _).setCell (p := ⟨w.heap.size + 1, 1, none⟩) (Nat.le_succ _) _).setCell (p := ⟨w.heap.size + 1, 2, none⟩) (Nat.le_succ _) _).setCell (p := ⟨w.heap.size + 1, 3, none⟩) (Nat.le_succ _) _).setCell (p := ⟨w.heap.size + 1, 4, none⟩) (Nat.le_succ _) _
  · have hg := getR_miss trKey tr0 (fun p hp => HL.out p (by have := HNe.out; omega))
    obtain ⟨rfl, rfl⟩ : X = tr0 ∧ E = 3 := by
      rcases HX.out with ⟨h1, h2⟩ | ⟨_, h1, h2⟩
      · rw [hg] at h1; cases h1
      · exact ⟨h1, h2⟩
    clear hg HL HX
    go_wp2_with fail
    refine bodyPost_ret (v := .tuple #[.agg #[.int .i64 0, .int .i64 0, .int .i64 0, .int .i64 0, .int .i64 0], .int .i64 3]) (by simp [results, Try.results36, go_sem, e0, e1, e2, e3, e4]) rfl ⟨rfl, ?_⟩
    exact ((((b1.setCell (p := ⟨w.heap.size + 1, 0, none⟩) (Nat.le_succ _) _).setCell (p := ⟨w.heap.size + 1, 1, none⟩) (Nat.le_succ _) _).setCell (p := ⟨w.heap.size + 1, 2, none⟩) (Nat.le_succ _) _).setCell (p := ⟨w.heap.size + 1, 3, none⟩) (Nat.le_succ _) _).setCell (p := ⟨w.heap.size + 1, 4, none⟩) (Nat.le_succ _) _
end Go.Proofs.Ytfjnmjibifefgaa
