/- The walk of the statement BatchOnly of layer 6. -/
import Derived.Test.YtdeenkpkcibebaaBatLawKit
namespace Go.Proofs.Ytdeenkpkcibebaa
open Go.RowKit Vm Bm
set_option linter.unusedVariables false

set_option maxRecDepth 100000 in
set_option maxHeartbeats 4000000 in
theorem batchOnly_law (s : ByteArray) (w : World) (hs : s.size ≤ 140737488351232) :
    Calls Try.prog 6 #[.string s] w fun e w' => e = .returned (.bool true) ∧ Below w.heap.size w w' := by
  by_cases hz : 50000 < (s.size : Int)
  · go_enter Try.func6, Try.ntmps6
    go_wp2_with fail
    refine (awake6_walk _).mono ?_
    rintro x w1 ⟨rfl, g1⟩
    go_wp2_with fail
    go_ret
    exact ⟨rfl, g1⟩
  cases hu : unbatL s.data.toList with
  | none =>
    have D1 := fun w => (bdec_walk s w none hu.symm (by omega)).mono fun e w' hp => bpost_of (D := zb) (E := 2) hp (.inl ⟨rfl, rfl, rfl⟩)
    have S1 := fun a1 a2 c1 c2 w => same_bat_walk zb 0 a1 a2 c1 c2 w.heap.size w rfl (by omega) (.inl rfl) (.inl rfl) (Nat.le_refl _)
    unfold DPost at D1
    simp only [zb, List.length_nil] at D1 S1
    have D1 := Lib.hid D1
    have S1 := Lib.hid S1
    clear hu hs
    go_enter Try.func6, Try.ntmps6
    go_wp2_with fail
    refine (D1.out _).mono ?_
    rintro x w1 ⟨a, c, rfl, _, g1⟩
    obtain ⟨n0, n1, n2, n3, n4, hgn, _⟩ := fv_of (Whole.new w1 24 (bvc zb a c))
    have B1 := g1.trans ((below_alloc w1 (.cells (bvc zb a c) 24)).mono g1.size)
    simp only [bvc, zb, List.length_nil] at n0 n1 n2 n3 n4 hgn B1
    go_wp2_with fail
    refine (S1.out _ _ _ _ _).mono ?_
    rintro x w2 ⟨rfl, g2⟩
    go_wp2_with fail
    refine (awake6_walk _).mono ?_
    rintro x w3 ⟨rfl, g3⟩
    go_wp2_with fail
    go_ret
    exact ⟨rfl, B1.trans ((gtrans g2 g3).mono B1.size)⟩
  | some b =>
    obtain ⟨hm, he⟩ := unbatL_some hu
    have hX : str (batL b) = s := by rw [← he, str_data]
    have D1 := fun w => (bdec_walk s w (some b) hu.symm (by omega)).mono fun e w' hp => bpost_of (D := b) (E := 0) hp (.inr ⟨rfl, rfl⟩)
    have E1 := fun a c w hl => benc_yes b a c w.heap.size w hm hl (Nat.le_refl _)
    have C1 := fun a c w hl => bcheck_walk b a c w.heap.size w 0 (.inl ⟨hm, rfl⟩) hl (Nat.le_refl _)
    rw [hX] at E1
    unfold DPost at D1
    obtain ⟨k, p, e, q, l⟩ := b
    simp only [bv, bvc] at *
    have D1 := Lib.hid D1
    have E1 := Lib.hid E1
    have C1 := Lib.hid C1
    have hq := bytes_eq s
    clear hu hs hm he hX
    go_enter Try.func6, Try.ntmps6
    go_wp2_with fail
    refine (D1.out _).mono ?_
    rintro x w1 ⟨a, c, rfl, sl, g1⟩
    have hal := below_alloc w1 (.cells #[.int .i64 k, .int .i64 p, .int .i64 e, .int .i64 q, .slice a l.length c] 24)
    have HR1 := Lib.hid (Whole.new w1 24 (bvc ⟨k, p, e, q, l⟩ a c))
    have B1 := g1.trans (hal.mono g1.size)
    have HL1 := Lib.hid ((sl.below hal (Nat.le_refl _)).grow hal.size)
    obtain ⟨c0, c1, c2, c3, c4, hgn, _⟩ := fv_of (b := ⟨k, p, e, q, l⟩) HR1.out
    simp only [bvc] at c0 c1 c2 c3 c4 hgn
    clear g1 sl hal
    go_wp2_with fail
    refine (E1.out _ _ _ HL1.out).mono ?_
    rintro x w2 ⟨rfl, g2⟩
    have HR2 := Lib.hid (HR1.out.keep g2)
    have B2 := B1.trans (g2.mono B1.size)
    have HL2 := Lib.hid ((HL1.out.below g2 (Nat.le_refl _)).grow g2.size)
    clear g2 c0 c1 c2 c3 c4 hgn
    obtain ⟨c0, c1, c2, c3, c4, hgn, _⟩ := fv_of (b := ⟨k, p, e, q, l⟩) HR2.out
    simp only at c0 c1 c2 c3 c4 hgn
    go_wp2_with fail
    refine (C1.out _ _ _ HL2.out).mono ?_
    rintro x w3 ⟨rfl, g3⟩
    clear c0 c1 c2 c3 c4
    go_wp2_with fail
    refine (awake6_walk _).mono ?_
    rintro x w4 ⟨rfl, g4⟩
    go_wp2_with fail
    go_ret
    exact ⟨rfl, B2.trans ((gtrans g3 g4).mono B2.size)⟩
end Go.Proofs.Ytdeenkpkcibebaa
