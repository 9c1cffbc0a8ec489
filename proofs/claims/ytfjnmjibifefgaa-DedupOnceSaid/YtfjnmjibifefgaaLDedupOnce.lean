/- The walk of the statement DedupOnce of layer 7. -/
import Derived.Test.YtfjnmjibifefgaaDdLet
namespace Go.Proofs.Ytfjnmjibifefgaa
open Go.RowKit Vm Bm
set_option linter.unusedVariables false
set_option linter.unusedSimpArgs false

theorem stepS_none (pid : Int) (I : List Bx) : I.foldl (stepS pid) none = none := by
  induction I with
  | nil => rfl
  | cons x t ih => exact ih
theorem foldS_round {pid : Int} {I : List Bx} {i : Nat} {e s : Int} {v : Int × Int} (h : foldS pid I = some v) (hi : i < I.length) (ht : foldS pid (I.take i) = some (e, s)) {y : Bx} (hy : I.getD i bx0 = y) :
    (y.b.pid ≠ pid ∧ foldS pid (I.take (i + 1)) = some (e, s)) ∨ (y.b.pid = pid ∧ ¬ y.b.epoch < e ∧ ((e < y.b.epoch ∧ y.b.seq = 0) ∨ (¬ e < y.b.epoch ∧ y.b.seq = s)) ∧ foldS pid (I.take (i + 1)) = some (y.b.epoch, y.b.seq + y.b.l.length)) := by
  have h1 : foldS pid (I.take (i + 1)) = stepS pid (some (e, s)) y := by
    rw [take_get I bx0 i hi, foldS_snoc, ht, hy]
  have h2 : foldS pid (I.take (i + 1)) ≠ none := by
    intro hn
    unfold foldS at h hn
    rw [← List.take_append_drop (i + 1) I, List.foldl_append, hn, stepS_none] at h
    cases h
  rw [h1] at h2 ⊢
  have hst : stepS pid (some (e, s)) y = if y.b.pid ≠ pid then some (e, s) else if y.b.epoch < e then none else if y.b.seq = (if e < y.b.epoch then 0 else s) then some (y.b.epoch, y.b.seq + y.b.l.length) else none := rfl
  rw [hst] at h2 ⊢
  by_cases a1 : y.b.pid ≠ pid
  · rw [if_pos a1]
    exact .inl ⟨a1, rfl⟩
  · have a1' : y.b.pid = pid := Classical.not_not.1 a1
    rw [if_neg a1] at h2 ⊢
    by_cases a2 : y.b.epoch < e
    · rw [if_pos a2] at h2; exact absurd rfl h2
    · rw [if_neg a2] at h2 ⊢
      by_cases a3 : y.b.seq = (if e < y.b.epoch then 0 else s)
      · rw [if_pos a3]
        refine .inr ⟨a1', a2, ?_, rfl⟩
        split at a3
        · next h => exact .inl ⟨h, a3⟩
        · next h => exact .inr ⟨h, a3⟩
      · rw [if_neg a3] at h2; exact absurd rfl h2
set_option maxRecDepth 100000 in
set_option maxHeartbeats 8000000 in
theorem dedupOnce_law (l : List Bx) (a : Option Addr) (c : Nat) (w : World) (hl : Sl w w.heap.size a (bxCells l)) (hi : ∀ x ∈ l, BxI w x) (hc : (a = none → c = 0) ∧ l.length ≤ c ∧ c ≤ maxLen) :
    Calls Try.prog 5 #[.slice a l.length c] w fun e w' => e = .returned (.bool true) ∧ Below w.heap.size w w' := by
  obtain ⟨N, hN⟩ : ∃ N, l.length = N := ⟨_, rfl⟩
  rw [hN] at hc ⊢
  have KL := Lib.hid (let_walk l N a c w hN (by omega) hl hi)
  unfold LetPost at KL
  clear hi hl hN hc
  go_enter Try.func5, Try.ntmps5
  go_wp2_with fail
  refine KL.out.mono ?_
  rintro e w1 ⟨I, A, R, nx, a6, a7, a8, c6, c7, c8, rfl, hinv, hI60, hsub, s6, s7, s8, b1⟩
  obtain ⟨m, hm⟩ : ∃ m, I.length = m := ⟨_, rfl⟩
  rw [hm] at hI60
  simp only [hm]
  have HM := Lib.hid hm
  have HV := Lib.hid hinv
  have HS6 := Lib.hid s6
  clear hm hinv hsub s6 s7 s8 KL
  go_wp2_with fail
  go_loop [7] (fun Z => ∃ z : Nat, 1 ≤ z ∧ z ≤ 9 ∧ Z = .int .i64 z) (fun Z => 10 - (intOf Z).toNat)
  case atStart => exact ⟨1, by omega, by omega, rfl⟩
  case round =>
    obtain ⟨z, hz1, hz9, rfl⟩ := hrel
    by_cases hz8 : z ≤ 8
    · have hz8i : (z : Int) ≤ 8 := by omega
      have hwz : IntKind.i64.wrap ((z : Int) + 1) = ((z + 1 : Nat) : Int) := by rw [IntWalk.i64_in _ (by omega)]; omega
      have hfold := HV.out.last (z : Int) (by omega)
      have HFO := Lib.hid hfold
      clear hfold
      go_wp2_with fail
      go_loop [8, 9, 10] (fun EP SQ J => ∃ (i : Nat) (e s : Int), i ≤ m ∧ EP = .int .i64 e ∧ SQ = .int .i64 s ∧ J = .int .i64 i ∧ Hid (foldS z (I.take i) = some (e, s))) (fun _ _ J => m - (intOf J).toNat)
      case atStart => exact ⟨0, 0, 0, by omega, rfl, rfl, rfl, Lib.hid rfl⟩
      case round =>
        obtain ⟨i, ep, sq, him, rfl, rfl, rfl, HT⟩ := hrel
        by_cases hilt : i < m
        · have hilt2 : (i : Int) < (m : Int) := by omega
          have hi0 : 0 ≤ (i : Int) := by omega
          have hil : i < I.length := by rw [HM.out]; exact hilt
          have hwi : IntKind.i64.wrap ((i : Int) + 1) = ((i + 1 : Nat) : Int) := by rw [IntWalk.i64_in _ (by omega)]; omega
          obtain ⟨b6, o6, rfl, hb6, hc6⟩ := HS6.out.bx (by omega)
          obtain ⟨r0, r1, r2, r3, r4⟩ := hc6 i hil
          have hmay := HV.out.may (I.getD i bx0) (getD_mem I bx0 i hil)
          obtain ⟨y, hy⟩ : ∃ y, I.getD i bx0 = y := ⟨_, rfl⟩
          obtain ⟨_, _, hF, _⟩ := HFO.out
          have hR := foldS_round hF hil HT.out hy
          rw [hy] at r0 r1 r2 r3 r4 hmay
          have hp := may_pos hmay.1 hmay.2
          have hl64 := hp.2.1
          have hsq := hp.2.2.1
          have hsq2 := hp.2.2.2.1
          clear hy hc6 hF hmay hp
          rcases hR with ⟨h1, h2⟩ | ⟨h1, h2, ⟨h3, h4⟩ | ⟨h3, h4⟩, h5⟩
          · have H2 := Lib.hid h2
            have f1 : (y.b.pid != (z : Int)) = true := by simp [h1]
            clear h1 h2
            go_wp2_with fail
            go_round
            case rel => exact ⟨i + 1, ep, sq, by omega, rfl, rfl, by go_num, H2⟩
            case measure => simp [intOf]; omega
          · have H5 := Lib.hid h5
            have H4 := Lib.hid h4
            have f1 : (y.b.pid != (z : Int)) = false := by simp [h1]
            have f4 : (y.b.seq != 0) = false := by simp [h4]
            have hadd : IntKind.i64.wrap (y.b.l.length : Int) = (y.b.l.length : Int) := IntWalk.i64_in _ (by omega)
            have hadd2 : wrap64 (y.b.l.length : Int) = (y.b.l.length : Int) := IntWalk.wrap64_in _ (by omega)
            clear h1 h4 h5
            go_wp2_with fail
            go_round
            case rel => exact ⟨i + 1, y.b.epoch, y.b.l.length, by omega, rfl, rfl, by go_num, Lib.hid (by rw [H5.out, H4.out]; simp)⟩
            case measure => simp [intOf]; omega
          · have H5 := Lib.hid h5
            have H4 := Lib.hid h4
            have f1 : (y.b.pid != (z : Int)) = false := by simp [h1]
            have f4 : (y.b.seq != sq) = false := by simp [h4]
            have hadd : IntKind.i64.wrap (sq + (y.b.l.length : Int)) = sq + (y.b.l.length : Int) := IntWalk.i64_in _ (by omega)
            have hadd2 : wrap64 (sq + (y.b.l.length : Int)) = sq + (y.b.l.length : Int) := IntWalk.wrap64_in _ (by omega)
            have H6 := Lib.hid (show y.b.epoch = ep from by omega)
            clear h1 h4 h5
            go_wp2_with fail
            go_round
            case rel => exact ⟨i + 1, ep, sq + y.b.l.length, by omega, rfl, rfl, by go_num, Lib.hid (by rw [H5.out, H4.out, H6.out])⟩
            case measure => simp [intOf]; omega
        · have hilt2 : ¬ (i : Int) < (m : Int) := by omega
          go_wp2_with fail
          go_round
          case rel => exact ⟨z + 1, by omega, by omega, by go_num⟩
          case measure => simp [intOf]; omega
    · have hz8i : ¬ (z : Int) ≤ 8 := by omega
      go_wp2_with fail
      refine (awake7_walk _).mono ?_
      rintro e w2 ⟨rfl, g2⟩
      go_wp2_with fail
      go_ret
      exact ⟨rfl, gtrans b1 g2⟩
end Go.Proofs.Ytfjnmjibifefgaa
