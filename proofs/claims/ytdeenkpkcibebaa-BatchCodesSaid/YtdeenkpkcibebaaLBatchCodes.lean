/- The walk of the statement BatchCodes of layer 6. -/
import Derived.Test.YtdeenkpkcibebaaBatLawKit
namespace Go.Proofs.Ytdeenkpkcibebaa
open Go.RowKit Vm Bm
set_option linter.unusedVariables false

set_option maxRecDepth 100000 in
set_option maxHeartbeats 4000000 in
theorem batchCodes_law (b : Bat) (a : Option Addr) (c : Nat) (s : ByteArray) (w : World) (hw : BatWf b) (hl : Sl w w.heap.size a (recCells b.l)) (hs : s.size ≤ 140737488351232) :
    Calls Try.prog 4 #[bv b a c, .string s] w fun e w' => e = .returned (.bool true) ∧ Below w.heap.size w w' := by
  have B0 := below_alloc w (.cells (bvc b a c) 24)
  have R0 := Whole.new w 24 (bvc b a c)
  have L0 := (hl.below B0 (Nat.le_refl _)).grow B0.size
  have HR0 := Lib.hid R0
  have HL0 := Lib.hid L0
  have hz0 : w.heap.size ≤ (w.alloc (.cells (bvc b a c) 24)).heap.size := B0.size
  obtain ⟨c0, c1, c2, c3, c4, hgl, _⟩ := fv_of R0
  by_cases hg : ¬ LightB b
  · have KL := Lib.hid (fun w hl hB => light_walk b b.l.length a c w.heap.size w false rfl ⟨fun h => (by cases h), fun h => absurd h hg⟩ hl hB)
    obtain ⟨k, p, e, q, l⟩ := b
    simp only [bv, bvc] at *
    go_enter Try.func4, Try.ntmps4
    go_wp2_with fail
    refine (KL.out _ L0 (Nat.le_refl _)).mono ?_
    rintro x w1 ⟨rfl, g1⟩
    have B1 := B0.trans (g1.mono B0.size)
    go_wp2_with fail
    refine (awake6_walk _).mono ?_
    rintro x wz ⟨rfl, gz⟩
    go_wp2_with fail
    go_ret
    exact ⟨rfl, B1.trans (gz.mono B1.size)⟩
  have hg := Classical.not_not.1 hg
  have KL := fun w hl hB => light_walk b b.l.length a c w.heap.size w true rfl ⟨fun _ => hg, fun _ => rfl⟩ hl hB
  by_cases hmo : 50000 < (s.size : Int)
  · obtain ⟨k, p, e, q, l⟩ := b
    simp only [bv, bvc] at *
    have KL := Lib.hid KL
    go_enter Try.func4, Try.ntmps4
    go_wp2_with fail
    refine (KL.out _ L0 (Nat.le_refl _)).mono ?_
    rintro x w1 ⟨rfl, g1⟩
    have B1 := B0.trans (g1.mono B0.size)
    go_wp2_with fail
    refine (awake6_walk _).mono ?_
    rintro x wz ⟨rfl, gz⟩
    go_wp2_with fail
    go_ret
    exact ⟨rfl, B1.trans (gz.mono B1.size)⟩
  obtain ⟨X, K, _, E1, E2, _⟩ := benc_both b
  obtain ⟨D, E, _, hD, D1, D2⟩ := bdec_both s (by omega)
  have S1 := fun a1 a2 c1 c2 B w h1 h2 hB => same_bat_walk D D.l.length a1 a2 c1 c2 B w rfl (by omega) h1 h2 hB
  unfold DPost at D1 D2
  have hq := bytes_eq X
  obtain ⟨k, p, e, q, l⟩ := b
  obtain ⟨dk, dp, de, dq, dl⟩ := D
  simp only [bv, bvc] at *
  have KL := Lib.hid KL
  have E1 := Lib.hid (fun w hl => E1 a c w.heap.size w hl (Nat.le_refl _))
  have E2 := Lib.hid (fun w hl => E2 a c w.heap.size w hl (Nat.le_refl _))
  have D1 := Lib.hid D1
  have D2 := Lib.hid D2
  have S1 := Lib.hid S1
  clear hw hg hs hD
  go_enter Try.func4, Try.ntmps4
  go_wp2_with fail
  refine (KL.out _ HL0.out (Nat.le_refl _)).mono ?_
  rintro x w1 ⟨rfl, g⟩
  have HR1 := Lib.hid (HR0.out.keep g)
  have B1 := B0.trans (g.mono B0.size)
  have HL1 := Lib.hid ((HL0.out.below g (Nat.le_refl _)).grow g.size)
  clear g c0 c1 c2 c3 c4 hgl
  obtain ⟨c0, c1, c2, c3, c4, hgl, _⟩ := fv_of (b := ⟨k, p, e, q, l⟩) HR1.out
  simp only at c0 c1 c2 c3 c4
  go_wp2_with fail
  refine (E1.out _ HL1.out).mono ?_
  rintro x w2 ⟨rfl, g⟩
  have HR2 := Lib.hid (HR1.out.keep g)
  have B2 := B1.trans (g.mono B1.size)
  have HL2 := Lib.hid ((HL1.out.below g (Nat.le_refl _)).grow g.size)
  clear g c0 c1 c2 c3 c4 hgl
  obtain ⟨c0, c1, c2, c3, c4, hgl, _⟩ := fv_of (b := ⟨k, p, e, q, l⟩) HR2.out
  simp only at c0 c1 c2 c3 c4
  go_wp2_with fail
  refine (E2.out _ HL2.out).mono ?_
  rintro x w3 ⟨rfl, g⟩
  have B3 := B2.trans (g.mono B2.size)
  clear g c0 c1 c2 c3 c4 hgl
  go_wp2_with fail
  refine (D1.out _).mono ?_
  rintro x w4 ⟨a4, cc4, rfl, s4, g⟩
  have hal := below_alloc w4 (.cells #[.int .i64 dk, .int .i64 dp, .int .i64 de, .int .i64 dq, .slice a4 dl.length cc4] 24)
  have B4 := (B3.trans (g.mono B3.size)).trans (hal.mono (B3.trans (g.mono B3.size)).size)
  have HS4 := Lib.hid ((s4.below hal (Nat.le_refl _)).grow hal.size)
  have HN4 := Lib.hid (Whole.new w4 24 (bvc ⟨dk, dp, de, dq, dl⟩ a4 cc4))
  clear g s4 hal
  go_wp2_with fail
  refine (D2.out _).mono ?_
  rintro x w5 ⟨a5, cc5, rfl, s5, g⟩
  have hal := below_alloc w5 (.cells #[.int .i64 dk, .int .i64 dp, .int .i64 de, .int .i64 dq, .slice a5 dl.length cc5] 24)
  have B5 := (B4.trans (g.mono B4.size)).trans (hal.mono (B4.trans (g.mono B4.size)).size)
  have HS5 := Lib.hid ((s5.below hal (Nat.le_refl _)).grow hal.size)
  have HS4 := Lib.hid (((HS4.out.below g (Nat.le_refl _)).below hal g.size).grow (Nat.le_trans g.size hal.size))
  have HN4 := Lib.hid ((HN4.out.keep g).keep hal)
  have HN5 := Lib.hid (Whole.new w5 24 (bvc ⟨dk, dp, de, dq, dl⟩ a5 cc5))
  clear g s5 hal
  obtain ⟨c0, c1, c2, c3, c4, hgl, _⟩ := fv_of (b := ⟨dk, dp, de, dq, dl⟩) HN4.out
  obtain ⟨n0, n1, n2, n3, n4, hgn, _⟩ := fv_of (b := ⟨dk, dp, de, dq, dl⟩) HN5.out
  simp only [bvc] at c0 c1 c2 c3 c4 n0 n1 n2 n3 n4 hgl hgn
  go_wp2_with fail
  refine (S1.out _ _ _ _ _ _ HS4.out HS5.out (Nat.le_refl _)).mono ?_
  rintro x w6 ⟨rfl, g6⟩
  have B6 := B5.trans (g6.mono B5.size)
  clear c0 c1 c2 c3 c4 n0 n1 n2 n3 n4
  go_wp2_with fail
  refine (awake6_walk _).mono ?_
  rintro x wz ⟨rfl, gz⟩
  go_wp2_with fail
  go_ret
  exact ⟨rfl, B6.trans (gz.mono B6.size)⟩
end Go.Proofs.Ytdeenkpkcibebaa
