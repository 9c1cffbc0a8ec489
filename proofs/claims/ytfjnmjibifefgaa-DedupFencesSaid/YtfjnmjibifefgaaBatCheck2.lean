/- The walk of batch.Check. -/
import Derived.Test.YtfjnmjibifefgaaBatCheck
namespace Go.Proofs.Ytfjnmjibifefgaa
open Go.RowKit Vm Bm
set_option linter.unusedVariables false

theorem sl_new (w : World) (cs : Array Value) (t : TypeId) : Sl (w.alloc (.cells cs t)) (w.alloc (.cells cs t)).heap.size (some ⟨w.heap.size, 0, none⟩) cs.toList := by
  refine .inr ⟨w.heap.size, 0, rfl, by simp, fun j u hu => ?_⟩
  rw [Nat.zero_add, World.cell?_alloc_at _ _ _ _ rfl, ← Array.getElem?_toList]
  exact hu
theorem below_alloc (w : World) (o : Obj) : Below w.heap.size w (w.alloc o) := (Below.refl _ _).alloc (Nat.le_refl _) o
/-- beyond, at a row of one number, or two. -/
theorem beyond1 (m x : Int) (b : Bool) (w : World) (t : TypeId) (g : Nat) (hg : g = w.heap.size) (hb : b = true ↔ x < 0 ∨ m < x) :
    Calls Try.prog 67 #[.int .i64 m, .slice (some ⟨g, 0, none⟩) 1 1] (w.alloc (.cells #[.int .i64 x] t)) fun e w' => e = .returned (.bool b) ∧ w' = w.alloc (.cells #[.int .i64 x] t) :=
  hg ▸ beyond_walk m _ 1 1 _ [x] _ b (by rw [hb]; simp) rfl (by omega) (sl_new w #[.int .i64 x] t)
theorem beyond2 (m x y : Int) (b : Bool) (w : World) (t : TypeId) (g : Nat) (hg : g = w.heap.size) (hb : b = true ↔ (x < 0 ∨ m < x) ∨ (y < 0 ∨ m < y)) :
    Calls Try.prog 67 #[.int .i64 m, .slice (some ⟨g, 0, none⟩) 2 2] (w.alloc (.cells #[.int .i64 x, .int .i64 y] t)) fun e w' => e = .returned (.bool b) ∧ w' = w.alloc (.cells #[.int .i64 x, .int .i64 y] t) :=
  hg ▸ beyond_walk m _ 2 2 _ [x, y] _ b (by rw [hb]; simp) rfl (by omega) (sl_new w #[.int .i64 x, .int .i64 y] t)

set_option maxRecDepth 100000 in
set_option maxHeartbeats 4000000 in
theorem bcheck_walk (b : Bat) (a : Option Addr) (c B : Nat) (w : World) (K : Int) (hK : (MayB b ∧ K = 0) ∨ (¬ MayB b ∧ K = 1)) (hl : Sl w B a (recCells b.l)) (hB : B ≤ w.heap.size) :
    Calls Try.prog 41 #[bv b a c] w fun e w' => e = .returned (.int .i64 K) ∧ Below w.heap.size w w' := by
  have HNO := Lib.hid (show ¬ MayB b → K = 1 from fun h => by rcases hK with h1 | h1; exact absurd h1.1 h; exact h1.2)
  have HYES := Lib.hid (show MayB b → K = 0 from fun h => by rcases hK with h1 | h1; exact h1.2; exact absurd h h1.1)
  clear hK
  have R0 := Whole.new w 25 (bvc b a c)
  have B0 := below_alloc w (.cells (bvc b a c) 25)
  have L0 := hl.below B0 hB
  have KW := Lib.hid (fun w d hd hp he hq => kind_walk b a c w d hd hp he hq)
  obtain ⟨c0, c1, c2, c3, c4, hg⟩ := R0.five
  by_cases hp : b.pid < 0 ∨ 8 < b.pid
  · obtain rfl : K = 1 := HNO.out (fun h => by have := h.1; unfold HeadB at this; omega)
    have HP := Lib.hid hp
    clear hp HNO HYES L0 KW
    unfold bv
    go_enter Try.func41, Try.ntmps41
    go_wp2_with fail
    refine (beyond1 8 b.pid true _ _ _ (by simp) ⟨fun _ => HP.out, fun _ => rfl⟩).mono ?_
    rintro e w1 ⟨rfl, rfl⟩
    go_wp2_with fail
    go_ret
    exact ⟨rfl, B0.trans ((below_alloc _ _).mono B0.size)⟩
  by_cases hq : (b.epoch < 0 ∨ 1099511627776 < b.epoch) ∨ (b.seq < 0 ∨ 1099511627776 < b.seq)
  · obtain rfl : K = 1 := HNO.out (fun h => by have := h.1; unfold HeadB at this; omega)
    have HP := Lib.hid hp
    have HQ := Lib.hid hq
    clear hp hq HNO HYES L0 KW
    unfold bv
    go_enter Try.func41, Try.ntmps41
    go_wp2_with fail
    refine (beyond1 8 b.pid false _ _ _ (by simp) ⟨fun h => (by cases h), fun h => absurd h HP.out⟩).mono ?_
    rintro e w1 ⟨rfl, h1⟩
    have g1 : Below (w.alloc (.cells (bvc b a c) 25)).heap.size (w.alloc (.cells (bvc b a c) 25)) w1 := by rw [h1]; exact below_alloc _ _
    have R1 := R0.keep g1
    have B1 := B0.trans (g1.mono B0.size)
    clear h1 c0 c1 c2 c3 c4 hg
    obtain ⟨c0, c1, c2, c3, c4, hg⟩ := R1.five
    go_wp2_with fail
    refine (beyond2 1099511627776 b.epoch b.seq true _ _ _ (by simp) ⟨fun _ => HQ.out, fun _ => rfl⟩).mono ?_
    rintro e w2 ⟨rfl, rfl⟩
    go_wp2_with fail
    go_ret
    exact ⟨rfl, B1.trans ((below_alloc _ _).mono B1.size)⟩
  by_cases hn : (b.l.length : Int) < 0 ∨ 64 < (b.l.length : Int)
  · obtain rfl : K = 1 := HNO.out (fun h => by have := h.1; unfold HeadB at this; omega)
    have HP := Lib.hid hp
    have HQ := Lib.hid hq
    have HN := Lib.hid hn
    clear hp hq hn HNO HYES L0 KW
    unfold bv
    go_enter Try.func41, Try.ntmps41
    go_wp2_with fail
    refine (beyond1 8 b.pid false _ _ _ (by simp) ⟨fun h => (by cases h), fun h => absurd h HP.out⟩).mono ?_
    rintro e w1 ⟨rfl, h1⟩
    have g1 : Below (w.alloc (.cells (bvc b a c) 25)).heap.size (w.alloc (.cells (bvc b a c) 25)) w1 := by rw [h1]; exact below_alloc _ _
    have R1 := R0.keep g1
    have B1 := B0.trans (g1.mono B0.size)
    clear h1 c0 c1 c2 c3 c4 hg
    obtain ⟨c0, c1, c2, c3, c4, hg⟩ := R1.five
    go_wp2_with fail
    refine (beyond2 1099511627776 b.epoch b.seq false _ _ _ (by simp) ⟨fun h => (by cases h), fun h => absurd h HQ.out⟩).mono ?_
    rintro e w2 ⟨rfl, h2⟩
    have g2 : Below w1.heap.size w1 w2 := by rw [h2]; exact below_alloc _ _
    have R2 := R1.keep g2
    have B2 := B1.trans (g2.mono B1.size)
    have k2 := g1.trans (g2.mono g1.size)
    clear h2 g1 g2 c0 c1 c2 c3 c4 hg
    obtain ⟨c0, c1, c2, c3, c4, hg⟩ := R2.five
    go_wp2_with fail
    refine (beyond1 64 (b.l.length : Int) true _ _ _ (by simp) ⟨fun _ => HN.out, fun _ => rfl⟩).mono ?_
    rintro e w3 ⟨rfl, rfl⟩
    go_wp2_with fail
    go_ret
    exact ⟨rfl, B2.trans ((below_alloc _ _).mono B2.size)⟩
  by_cases hk : ¬ KindB b
  · obtain rfl : K = 1 := HNO.out (fun h => absurd h.2.1 hk)
    have KX := Lib.hid (fun w => KW.out w false ⟨fun h => (by cases h), fun h => absurd h hk⟩ (by omega) (by omega) (by omega))
    have HP := Lib.hid hp
    have HQ := Lib.hid hq
    have HN := Lib.hid hn
    clear hp hq hn hk HNO HYES L0 KW
    unfold bv
    go_enter Try.func41, Try.ntmps41
    go_wp2_with fail
    refine (beyond1 8 b.pid false _ _ _ (by simp) ⟨fun h => (by cases h), fun h => absurd h HP.out⟩).mono ?_
    rintro e w1 ⟨rfl, h1⟩
    have g1 : Below (w.alloc (.cells (bvc b a c) 25)).heap.size (w.alloc (.cells (bvc b a c) 25)) w1 := by rw [h1]; exact below_alloc _ _
    have R1 := R0.keep g1
    have B1 := B0.trans (g1.mono B0.size)
    clear h1 c0 c1 c2 c3 c4 hg
    obtain ⟨c0, c1, c2, c3, c4, hg⟩ := R1.five
    go_wp2_with fail
    refine (beyond2 1099511627776 b.epoch b.seq false _ _ _ (by simp) ⟨fun h => (by cases h), fun h => absurd h HQ.out⟩).mono ?_
    rintro e w2 ⟨rfl, h2⟩
    have g2 : Below w1.heap.size w1 w2 := by rw [h2]; exact below_alloc _ _
    have R2 := R1.keep g2
    have B2 := B1.trans (g2.mono B1.size)
    have k2 := g1.trans (g2.mono g1.size)
    clear h2 g1 g2 c0 c1 c2 c3 c4 hg
    obtain ⟨c0, c1, c2, c3, c4, hg⟩ := R2.five
    go_wp2_with fail
    refine (beyond1 64 (b.l.length : Int) false _ _ _ (by simp) ⟨fun h => (by cases h), fun h => absurd h HN.out⟩).mono ?_
    rintro e w3 ⟨rfl, h3⟩
    have g3 : Below w2.heap.size w2 w3 := by rw [h3]; exact below_alloc _ _
    have R3 := R2.keep g3
    have B3 := B2.trans (g3.mono B2.size)
    have k3 := k2.trans (g3.mono k2.size)
    clear h3 k2 g3 c0 c1 c2 c3 c4 hg
    obtain ⟨c0, c1, c2, c3, c4, hg⟩ := R3.five
    go_wp2_with fail
    refine (KX.out _).mono ?_
    rintro e w4 ⟨rfl, g4⟩
    go_wp2_with fail
    go_ret
    exact ⟨rfl, B3.trans (g4.mono B3.size)⟩
  · have hk' := Classical.not_not.1 hk
    have KX := Lib.hid (fun w => KW.out w true ⟨fun _ => hk', fun _ => rfl⟩ (by omega) (by omega) (by omega))
    have HH : HeadB b := by unfold HeadB; omega
    have HM := Lib.hid (show (∀ r ∈ b.l, MayR r) → K = 0 from fun h => HYES.out ⟨HH, hk', h⟩)
    have HX := Lib.hid (show ∀ r ∈ b.l, ¬ MayR r → K = 1 from fun r hr h => HNO.out (fun hm => h (hm.2.2 r hr)))
    have hlen : b.l.length ≤ 64 := by omega
    have HP := Lib.hid hp
    have HQ := Lib.hid hq
    have HN := Lib.hid hn
    clear hp hq hn hk hk' HH HNO HYES KW
    unfold bv
    go_enter Try.func41, Try.ntmps41
    go_wp2_with fail
    refine (beyond1 8 b.pid false _ _ _ (by simp) ⟨fun h => (by cases h), fun h => absurd h HP.out⟩).mono ?_
    rintro e w1 ⟨rfl, h1⟩
    have g1 : Below (w.alloc (.cells (bvc b a c) 25)).heap.size (w.alloc (.cells (bvc b a c) 25)) w1 := by rw [h1]; exact below_alloc _ _
    have R1 := R0.keep g1
    have B1 := B0.trans (g1.mono B0.size)
    clear h1 c0 c1 c2 c3 c4 hg
    obtain ⟨c0, c1, c2, c3, c4, hg⟩ := R1.five
    go_wp2_with fail
    refine (beyond2 1099511627776 b.epoch b.seq false _ _ _ (by simp) ⟨fun h => (by cases h), fun h => absurd h HQ.out⟩).mono ?_
    rintro e w2 ⟨rfl, h2⟩
    have g2 : Below w1.heap.size w1 w2 := by rw [h2]; exact below_alloc _ _
    have R2 := R1.keep g2
    have B2 := B1.trans (g2.mono B1.size)
    have k2 := g1.trans (g2.mono g1.size)
    clear h2 g1 g2 c0 c1 c2 c3 c4 hg
    obtain ⟨c0, c1, c2, c3, c4, hg⟩ := R2.five
    go_wp2_with fail
    refine (beyond1 64 (b.l.length : Int) false _ _ _ (by simp) ⟨fun h => (by cases h), fun h => absurd h HN.out⟩).mono ?_
    rintro e w3 ⟨rfl, h3⟩
    have g3 : Below w2.heap.size w2 w3 := by rw [h3]; exact below_alloc _ _
    have R3 := R2.keep g3
    have B3 := B2.trans (g3.mono B2.size)
    have k3 := k2.trans (g3.mono k2.size)
    clear h3 k2 g3 c0 c1 c2 c3 c4 hg
    obtain ⟨c0, c1, c2, c3, c4, hg⟩ := R3.five
    go_wp2_with fail
    refine (KX.out _).mono ?_
    rintro e w4 ⟨rfl, g4⟩
    have R4 := R3.keep g4
    have B4 := B3.trans (g4.mono B3.size)
    have L4 := L0.below (k3.trans (g4.mono k3.size)) (by simp; omega)
    clear k3 g4 c0 c1 c2 c3 c4 hg
    obtain ⟨c0, c1, c2, c3, c4, hg⟩ := R4.five
    go_wp2_with fail
    clear R0 R1 R2 R3 B0 B1 B2 B3 L0 HP HQ HN KX
    go_loopw [36] (fun i wr => ∃ k : Nat, k ≤ b.l.length ∧ i = .int .i64 k ∧ (∀ r ∈ b.l.take k, MayR r) ∧ Below w4.heap.size w4 wr) (fun i _ => b.l.length - (intOf i).toNat)
    case atStart => exact ⟨0, by omega, rfl, by simp, Below.refl _ _⟩
    case round =>
      obtain ⟨k, hkl, rfl, hm, hb⟩ := hrel
      have HMK := Lib.hid hm
      have LR := L4.below (hb.mono (by omega : B ≤ w4.heap.size)) (Nat.le_refl _)
      have BR := B4.trans (hb.mono B4.size)
      clear hm
      by_cases hlt : k < b.l.length
      · obtain ⟨b1, o1, rfl, hb1, r0, r1, r2⟩ := LR.rec hlt
        have hts := Lib.hid (List.take_succ_eq_append_getElem hlt)
        have hmem := Lib.hid (List.getElem_mem hlt)
        generalize b.l[k] = r at *
        obtain ⟨rk, rt, rx⟩ := r
        simp only at r0 r1 r2
        by_cases h1 : rk < 0 ∨ 1048576 < rk
        · obtain rfl : K = 1 := HX.out _ hmem.out (fun h => by unfold MayR at h; simp only at h; omega)
          have H1 := Lib.hid h1
          clear h1 HM HX
          go_wp2_with fail
          refine (beyond1 1048576 rk true _ _ _ (by simp) ⟨fun _ => H1.out, fun _ => rfl⟩).mono ?_
          rintro e w5 ⟨rfl, rfl⟩
          go_wp2_with fail
          go_ret
          exact ⟨rfl, BR.trans (((below_alloc _ _).trans ((below_alloc _ _).mono (by simp))).mono BR.size)⟩
        by_cases h2 : rt < 0 ∨ 1099511627776 < rt
        · obtain rfl : K = 1 := HX.out _ hmem.out (fun h => by unfold MayR at h; simp only at h; omega)
          have H1 := Lib.hid h1
          have H2 := Lib.hid h2
          clear h1 h2 HM HX
          go_wp2_with fail
          refine (beyond1 1048576 rk false _ _ _ (by simp) ⟨fun h => (by cases h), fun h => absurd h H1.out⟩).mono ?_
          rintro e w5 ⟨rfl, h5⟩
          have g5 : Below wr.heap.size wr w5 := by rw [h5]; exact (below_alloc _ _).trans ((below_alloc _ _).mono (by simp))
          have d1 : w5.cell? ⟨wr.heap.size, 1, none⟩ = some (.int .i64 rt) := by rw [h5]; exact (World.cell?_alloc_past _ _ _ (by simp)).trans (World.cell?_alloc_at _ _ _ _ rfl)
          have d2 : w5.cell? ⟨wr.heap.size, 2, none⟩ = some (.string (str rx)) := by rw [h5]; exact (World.cell?_alloc_past _ _ _ (by simp)).trans (World.cell?_alloc_at _ _ _ _ rfl)
          have dg : wr.heap.size < w5.heap.size := by rw [h5]; simp; omega
          clear h5
          go_wp2_with fail
          refine (beyond1 1099511627776 rt true _ _ _ (by simp) ⟨fun _ => H2.out, fun _ => rfl⟩).mono ?_
          rintro e w6 ⟨rfl, rfl⟩
          go_wp2_with fail
          go_ret
          exact ⟨rfl, (gtrans BR g5).trans ((below_alloc _ _).mono (gtrans BR g5).size)⟩
        by_cases h3 : ((str rx).size : Int) < 0 ∨ 512 < ((str rx).size : Int)
        · obtain rfl : K = 1 := HX.out _ hmem.out (fun h => by unfold MayR at h; simp only at h; rw [str_size] at h3; omega)
          have H1 := Lib.hid h1
          have H2 := Lib.hid h2
          have H3 := Lib.hid h3
          clear h1 h2 h3 HM HX
          go_wp2_with fail
          refine (beyond1 1048576 rk false _ _ _ (by simp) ⟨fun h => (by cases h), fun h => absurd h H1.out⟩).mono ?_
          rintro e w5 ⟨rfl, h5⟩
          have g5 : Below wr.heap.size wr w5 := by rw [h5]; exact (below_alloc _ _).trans ((below_alloc _ _).mono (by simp))
          have d1 : w5.cell? ⟨wr.heap.size, 1, none⟩ = some (.int .i64 rt) := by rw [h5]; exact (World.cell?_alloc_past _ _ _ (by simp)).trans (World.cell?_alloc_at _ _ _ _ rfl)
          have d2 : w5.cell? ⟨wr.heap.size, 2, none⟩ = some (.string (str rx)) := by rw [h5]; exact (World.cell?_alloc_past _ _ _ (by simp)).trans (World.cell?_alloc_at _ _ _ _ rfl)
          have dg : wr.heap.size < w5.heap.size := by rw [h5]; simp; omega
          clear h5
          go_wp2_with fail
          refine (beyond1 1099511627776 rt false _ _ _ (by simp) ⟨fun h => (by cases h), fun h => absurd h H2.out⟩).mono ?_
          rintro e w6 ⟨rfl, h6⟩
          have g6 : Below w5.heap.size w5 w6 := by rw [h6]; exact below_alloc _ _
          have d3 : w6.cell? ⟨wr.heap.size, 2, none⟩ = some (.string (str rx)) := (g6.cell (p := ⟨wr.heap.size, 2, none⟩) dg).trans d2
          clear h6 d1 d2
          go_wp2_with fail
          refine (beyond1 512 ((str rx).size : Int) true _ _ _ (by simp) ⟨fun _ => H3.out, fun _ => rfl⟩).mono ?_
          rintro e w7 ⟨rfl, rfl⟩
          go_wp2_with fail
          go_ret
          exact ⟨rfl, (gtrans (gtrans BR g5) g6).trans ((below_alloc _ _).mono (gtrans (gtrans BR g5) g6).size)⟩
        · have HG := Lib.hid (show MayR ⟨rk, rt, rx⟩ by rw [str_size] at h3; unfold MayR; simp only; omega)
          have H1 := Lib.hid h1
          have H2 := Lib.hid h2
          have H3 := Lib.hid h3
          clear h1 h2 h3
          go_wp2_with fail
          refine (beyond1 1048576 rk false _ _ _ (by simp) ⟨fun h => (by cases h), fun h => absurd h H1.out⟩).mono ?_
          rintro e w5 ⟨rfl, h5⟩
          have g5 : Below wr.heap.size wr w5 := by rw [h5]; exact (below_alloc _ _).trans ((below_alloc _ _).mono (by simp))
          have d1 : w5.cell? ⟨wr.heap.size, 1, none⟩ = some (.int .i64 rt) := by rw [h5]; exact (World.cell?_alloc_past _ _ _ (by simp)).trans (World.cell?_alloc_at _ _ _ _ rfl)
          have d2 : w5.cell? ⟨wr.heap.size, 2, none⟩ = some (.string (str rx)) := by rw [h5]; exact (World.cell?_alloc_past _ _ _ (by simp)).trans (World.cell?_alloc_at _ _ _ _ rfl)
          have dg : wr.heap.size < w5.heap.size := by rw [h5]; simp; omega
          clear h5
          go_wp2_with fail
          refine (beyond1 1099511627776 rt false _ _ _ (by simp) ⟨fun h => (by cases h), fun h => absurd h H2.out⟩).mono ?_
          rintro e w6 ⟨rfl, h6⟩
          have g6 : Below w5.heap.size w5 w6 := by rw [h6]; exact below_alloc _ _
          have d3 : w6.cell? ⟨wr.heap.size, 2, none⟩ = some (.string (str rx)) := (g6.cell (p := ⟨wr.heap.size, 2, none⟩) dg).trans d2
          clear h6 d1 d2
          go_wp2_with fail
          refine (beyond1 512 ((str rx).size : Int) false _ _ _ (by simp) ⟨fun h => (by cases h), fun h => absurd h H3.out⟩).mono ?_
          rintro e w7 ⟨rfl, h7⟩
          have g7 : Below w6.heap.size w6 w7 := by rw [h7]; exact below_alloc _ _
          clear h7
          go_wp2_with fail
          go_roundw
          case rel => exact ⟨k + 1, by omega, by go_num, by rw [hts.out]; intro y hy; rcases List.mem_append.1 hy with hy | hy; exact HMK.out y hy; rw [List.mem_singleton.1 hy]; exact HG.out, (((hb.trans (g5.mono hb.size)).trans (g6.mono (by have := hb.size; have := g5.size; omega))).trans (g7.mono (by have := hb.size; have := g5.size; have := g6.size; omega)))⟩
          case measure => simp [intOf]; omega
      · obtain rfl : K = 0 := HM.out (fun r hr => HMK.out r (by rw [List.take_of_length_le (by omega)]; exact hr))
        go_wp2_with fail
        go_ret
        exact ⟨rfl, BR⟩
end Go.Proofs.Ytfjnmjibifefgaa
