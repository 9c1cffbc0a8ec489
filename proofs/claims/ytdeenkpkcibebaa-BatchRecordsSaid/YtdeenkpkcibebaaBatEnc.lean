/- The walk of batch.Encode. -/
import Derived.Test.YtdeenkpkcibebaaBatCheck2
import Derived.Test.YtdeenkpkcibebaaBatRec
namespace Go.Proofs.Ytdeenkpkcibebaa
open Go.RowKit Vm Bm
set_option linter.unusedVariables false

theorem past {w w' : World} {o : Obj} (h : Below (w.alloc o).heap.size (w.alloc o) w') : Below w.heap.size w w' := (below_alloc w o).trans (h.mono (below_alloc w o).size)
theorem recsL_len {l : List Rec} (h : ∀ r ∈ l, MayR r) : (recsL l).length ≤ 542 * l.length := by
  induction l with
  | nil => simp [recsL]
  | cons r l ih =>
    have h1 := recL_len (h r (by simp)).i
    have h2 := (h r (by simp)).2.2.2.2
    have h3 := ih (fun x hx => h x (by simp [hx]))
    have e : recsL (r :: l) = recL r ++ recsL l := rfl
    rw [e, List.length_append, List.length_cons]; omega
theorem batL_take (b : Bat) (k : Nat) (h : k < b.l.length) : putN (headsL b) ++ recsL (b.l.take (k + 1)) = putN (headsL b) ++ recsL (b.l.take k) ++ recL b.l[k] := by
  rw [List.take_succ_eq_append_getElem h, recsL_snoc, List.append_assoc]

set_option maxRecDepth 100000 in
set_option maxHeartbeats 4000000 in
theorem benc_yes (b : Bat) (a : Option Addr) (c B : Nat) (w : World) (hm : MayB b) (hl : Sl w B a (recCells b.l)) (hB : B ≤ w.heap.size) :
    Calls Try.prog 22 #[bv b a c] w fun e w' => e = .returned (.tuple #[.string (str (batL b)), .int .i64 0]) ∧ Below w.heap.size w w' := by
  have HC := Lib.hid (fun w hl hB => bcheck_walk b a c B w 0 (.inl ⟨hm, rfl⟩) hl hB)
  have hh := hm.heads
  have hln := hm.1.2.2.2.2.2.2
  have HMR := Lib.hid hm.2.2
  have R0 := Whole.new w 24 (bvc b a c)
  have B0 := below_alloc w (.cells (bvc b a c) 24)
  have L0 := hl.below B0 hB
  have P1 := Lib.hid (fun g W => put_rw (headsL b) 5 g W rfl (by omega) hh)
  have z1 := putN_len _ hh
  obtain ⟨c0, c1, c2, c3, c4, hg⟩ := R0.five
  clear hh hm
  simp only [bv]
  go_enter Try.func22, Try.ntmps22
  go_wp2_with fail
  refine (HC.out _ L0 (Nat.le_trans hB B0.size)).mono ?_
  rintro e w1 ⟨rfl, g1⟩
  have R1 := R0.keep g1
  have B1 := B0.trans (g1.mono B0.size)
  have L1 := L0.below g1 (Nat.le_trans hB B0.size)
  clear g1 c0 c1 c2 c3 c4 hg R0 L0 B0
  obtain ⟨c0, c1, c2, c3, c4, hg⟩ := R1.five
  go_wp2_with fail
  refine (P1.out _ _ (Rw.new2 (by with_reducible rfl) (by first | with_reducible rfl | (simp; done)) (by exact rfl))).mono ?_
  rintro e w2 ⟨rfl, g2⟩
  have h12 := past g2
  have k2 := past h12
  have D2 := (Bd.start w1).below h12
  have z2 : w1.heap.size < w2.heap.size := by have := h12.size; simp at this; omega
  clear h12 g2 c0 c1 c2 c3 c4
  go_wp2_with fail
  have y2 : ([] : List UInt8).length + (str (putN (headsL b))).size ≤ 140737488355328 := by rw [str_size]; simp [headsL] at z1 ⊢; omega
  refine (write_walk _ _ _ _ _ D2 y2 (by omega)).mono ?_
  rintro e w3 ⟨rfl, D3, g3⟩
  have k3 := k2.trans g3
  have z3 : w1.heap.size < w3.heap.size := by have := g3.size; omega
  rw [str_toList, List.nil_append] at D3
  have R3 := (k3.block w.heap.size hg).trans R1
  obtain ⟨c0, c1, c2, c3, c4, _⟩ := Whole.five (b := b) R3
  clear g3 D2 k2 y2 z2 P1
  go_wp2_with fail
  clear c0 c1 c2 c3 c4 R3
  have z1' : (putN (headsL b)).length ≤ 50 := by simpa [headsL] using z1
  clear z1
  go_loopw [30] (fun i wr => ∃ k : Nat, k ≤ b.l.length ∧ i = .int .i64 k ∧ Bd w1.heap.size w1.heap.size (putN (headsL b) ++ recsL (b.l.take k)) wr ∧ Below w1.heap.size w1 wr ∧ w1.heap.size < wr.heap.size) (fun i _ => b.l.length - (intOf i).toNat)
  case atStart => exact ⟨0, by omega, rfl, by simpa [recsL] using D3, k3, z3⟩
  case round =>
    obtain ⟨k, hk, rfl, hbd, hb, hsz⟩ := hrel
    have hlk := recsL_len (l := b.l.take k) (fun r hr => HMR.out r (List.mem_of_mem_take hr))
    have hlk2 : (b.l.take k).length ≤ k := List.length_take_le _ _
    by_cases hlt : k < b.l.length
    · obtain ⟨b1, o1, rfl, hb1, r0, r1, r2⟩ := (L1.below hb (Nat.le_trans hB B1.size)).rec hlt
      have hts := Lib.hid (batL_take b k hlt)
      have hmr := HMR.out _ (List.getElem_mem hlt)
      have hl1 : (putN (headsL b) ++ recsL (b.l.take k)).length ≤ 40000 := by rw [List.length_append]; omega
      generalize b.l[k] = r at *
      have hrl := recL_len hmr.i
      have hrx := hmr.2.2.2.2
      have P2 := Lib.hid (fun W => put_rec_walk r W hmr.i.1 hmr.i.2.1 (by omega))
      generalize putN (headsL b) ++ recsL (b.l.take k) = X at *
      have y3 : X.length + (str (recL r)).size ≤ 140737488355328 := by rw [str_size]; omega
      clear hrl hrx hmr hl1 hlk hlk2
      go_wp2_with fail
      refine (P2.out _).mono ?_
      rintro e w4 ⟨rfl, g4⟩
      have hal := below_alloc wr (.cells #[.int .i64 r.k, .int .i64 r.t, .string (str r.x)] 43)
      have hbd4 := (hbd.below hal).below g4
      have g4' := hal.trans (g4.mono hal.size)
      have hb4 := hb.trans (g4'.mono hb.size)
      have z4 : w1.heap.size < w4.heap.size := by have := g4'.size; omega
      clear hbd g4 hal g4' r0 r1 r2 hb
      go_wp2_with fail
      refine (write_walk _ _ _ _ _ hbd4 y3 (by omega)).mono ?_
      rintro e w5 ⟨rfl, hbd5, g5⟩
      have hb5 := hb4.trans g5
      have z5 : w1.heap.size < w5.heap.size := by have := g5.size; omega
      rw [str_toList] at hbd5
      clear hbd4 g5 hb4
      go_wp2_with fail
      go_roundw
      case rel => exact ⟨k + 1, by omega, by go_num, by rw [hts.out]; exact hbd5, hb5, z5⟩
      case measure => simp [intOf]; omega
    · have hall : b.l.take k = b.l := List.take_of_length_le (by omega)
      rw [hall] at hbd hlk hlk2
      have y6 : (putN (headsL b) ++ recsL b.l).length ≤ 140737488355328 := by rw [List.length_append]; omega
      clear hall
      go_wp2_with fail
      refine (string_walk _ _ _ _ hbd (by omega)).mono ?_
      rintro e w4 ⟨rfl, g4⟩
      go_wp2_with fail
      go_ret2
      exact ⟨rfl, (B1.trans (hb.mono B1.size)).trans (g4.mono (Nat.le_trans B1.size (by omega)))⟩

set_option maxRecDepth 100000 in
set_option maxHeartbeats 1000000 in
theorem benc_no (b : Bat) (a : Option Addr) (c B : Nat) (w : World) (hm : ¬ MayB b) (hl : Sl w B a (recCells b.l)) (hB : B ≤ w.heap.size) :
    Calls Try.prog 22 #[bv b a c] w fun e w' => e = .returned (.tuple #[.string ⟨#[]⟩, .int .i64 1]) ∧ Below w.heap.size w w' := by
  have HC := Lib.hid (fun w hl hB => bcheck_walk b a c B w 1 (.inr ⟨hm, rfl⟩) hl hB)
  have B0 := below_alloc w (.cells (bvc b a c) 24)
  have L0 := hl.below B0 hB
  obtain ⟨c0, c1, c2, c3, c4, hg⟩ := (Whole.new w 24 (bvc b a c)).five
  clear hm
  simp only [bv]
  go_enter Try.func22, Try.ntmps22
  go_wp2_with fail
  refine (HC.out _ L0 (Nat.le_trans hB B0.size)).mono ?_
  rintro e w1 ⟨rfl, g1⟩
  go_wp2_with fail
  go_ret2
  exact ⟨rfl, B0.trans (g1.mono B0.size)⟩
end Go.Proofs.Ytdeenkpkcibebaa
