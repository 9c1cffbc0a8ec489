/- The walk of the statement BatchBack of layer 6. -/
import Derived.Test.YtdeenkpkcibebaaBatLawKit
namespace Go.Proofs.Ytdeenkpkcibebaa
open Go.RowKit Vm Bm
set_option linter.unusedVariables false

set_option maxRecDepth 100000 in
set_option maxHeartbeats 4000000 in
theorem batchBack_law (b : Bat) (a : Option Addr) (c : Nat) (w : World) (hw : BatWf b) (hl : Sl w w.heap.size a (recCells b.l)) :
    Calls Try.prog 5 #[bv b a c] w fun e w' => e = .returned (.bool true) ∧ Below w.heap.size w w' := by
  have B0 := below_alloc w (.cells (bvc b a c) 24)
  have R0 := Whole.new w 24 (bvc b a c)
  have L0 := (hl.below B0 (Nat.le_refl _)).grow B0.size
  have HR0 := Lib.hid R0
  have HL0 := Lib.hid L0
  have hz0 : w.heap.size ≤ (w.alloc (.cells (bvc b a c) 24)).heap.size := B0.size
  obtain ⟨c0, c1, c2, c3, c4, hgl, _⟩ := fv_of R0
  by_cases hg : ¬ LightB b
  · have KL := Lib.hid (fun w hl hB => light_walk b b.l.length a c w.heap.size w false rfl ⟨fun h => (by cases h), fun h => absurd h hg⟩ hl hB)
    obtain ⟨k, p, e, q, l⟩ := b
    simp only [bv, bvc] at *
    go_enter Try.func5, Try.ntmps5
    go_wp2_with fail
    refine (KL.out _ L0 (Nat.le_refl _)).mono ?_
    rintro x w1 ⟨rfl, g1⟩
    go_wp2_with fail
    refine (awake6_walk _).mono ?_
    rintro x w2 ⟨rfl, g2⟩
    go_wp2_with fail
    go_ret
    exact ⟨rfl, B0.trans ((gtrans g1 g2).mono B0.size)⟩
  have hg := Classical.not_not.1 hg
  have KL := fun w hl hB => light_walk b b.l.length a c w.heap.size w true rfl ⟨fun _ => hg, fun _ => rfl⟩ hl hB
  have hlen : b.l.length ≤ 100 := by have := hg.1; omega
  by_cases hm : MayB b
  · have E1 := fun w hl hB => benc_yes b a c w.heap.size w hm hl hB
    have hsz := batL_size hm
    have D1 := fun w => (bdec_walk (str (batL b)) w (some b) (by rw [str_toList, unbatL_put hm]) hsz).mono fun e w' hp => bpost_of (D := b) (E := 0) hp (.inr ⟨rfl, rfl⟩)
    have S1 := fun a1 a2 c1 c2 B w h1 h2 hB => same_bat_walk b b.l.length a1 a2 c1 c2 B w rfl hlen h1 h2 hB
    generalize str (batL b) = X at *
    unfold DPost at D1
    obtain ⟨k, p, e, q, l⟩ := b
    simp only [bv, bvc] at *
    have KL := Lib.hid KL
    have E1 := Lib.hid E1
    have D1 := Lib.hid D1
    have S1 := Lib.hid S1
    clear hw hm hg hsz
    go_enter Try.func5, Try.ntmps5
    go_wp2_with fail
    refine (KL.out _ HL0.out (Nat.le_refl _)).mono ?_
    rintro x w1 ⟨rfl, g⟩
    have HR1 := Lib.hid (HR0.out.keep g)
    have B1 := B0.trans (g.mono B0.size)
    have HL1 := Lib.hid ((HL0.out.below g (Nat.le_refl _)).grow g.size)
    clear g c0 c1 c2 c3 c4 hgl
    obtain ⟨c0, c1, c2, c3, c4, hgl, _⟩ := fv_of (b := ⟨k, p, e, q, l⟩) HR1.out
    simp only at c0 c1 c2 c3 c4
    go_wp2_with fail
    refine (E1.out _ HL1.out (Nat.le_refl _)).mono ?_
    rintro x w2 ⟨rfl, g⟩
    have HR2 := Lib.hid (HR1.out.keep g)
    have B2 := B1.trans (g.mono B1.size)
    have HL2 := Lib.hid ((HL1.out.below g (Nat.le_refl _)).grow g.size)
    clear g c0 c1 c2 c3 c4 hgl
    obtain ⟨c0, c1, c2, c3, c4, hgl, _⟩ := fv_of (b := ⟨k, p, e, q, l⟩) HR2.out
    simp only at c0 c1 c2 c3 c4
    go_wp2_with fail
    refine (D1.out _).mono ?_
    rintro x w3 ⟨a2, cc2, rfl, s3, g⟩
    have hal := below_alloc w3 (.cells #[.int .i64 k, .int .i64 p, .int .i64 e, .int .i64 q, .slice a2 l.length cc2] 24)
    have HR3 := Lib.hid ((HR2.out.keep g).keep hal)
    have B3 := (B2.trans (g.mono B2.size)).trans (hal.mono (B2.trans (g.mono B2.size)).size)
    have HL3 := Lib.hid (((HL2.out.below g (Nat.le_refl _)).below hal g.size).grow (Nat.le_trans g.size hal.size))
    have HS3 := Lib.hid ((s3.below hal (Nat.le_refl _)).grow hal.size)
    have HN3 := Lib.hid (Whole.new w3 24 (bvc ⟨k, p, e, q, l⟩ a2 cc2))
    clear g c0 c1 c2 c3 c4 hgl s3 hal
    obtain ⟨c0, c1, c2, c3, c4, hgl, _⟩ := fv_of (b := ⟨k, p, e, q, l⟩) HR3.out
    obtain ⟨n0, n1, n2, n3, n4, hgn, _⟩ := fv_of (b := ⟨k, p, e, q, l⟩) HN3.out
    simp only [bvc] at c0 c1 c2 c3 c4 n0 n1 n2 n3 n4 hgl hgn
    go_wp2_with fail
    refine (S1.out _ _ _ _ _ _ HL3.out HS3.out (Nat.le_refl _)).mono ?_
    rintro x w4 ⟨rfl, g4⟩
    clear c0 c1 c2 c3 c4 n0 n1 n2 n3 n4
    go_wp2_with fail
    refine (awake6_walk _).mono ?_
    rintro x w5 ⟨rfl, g5⟩
    go_wp2_with fail
    go_ret
    exact ⟨rfl, B3.trans ((gtrans g4 g5).mono B3.size)⟩
  · have E1 := fun w hl hB => benc_no b a c w.heap.size w hm hl hB
    have C1 := fun w hl hB => bcheck_walk b a c w.heap.size w 1 (.inr ⟨hm, rfl⟩) hl hB
    obtain ⟨k, p, e, q, l⟩ := b
    simp only [bv, bvc] at *
    have KL := Lib.hid KL
    have E1 := Lib.hid E1
    have C1 := Lib.hid C1
    have hq := bytes_eq ⟨#[]⟩
    clear hw hm hg
    go_enter Try.func5, Try.ntmps5
    go_wp2_with fail
    refine (KL.out _ HL0.out (Nat.le_refl _)).mono ?_
    rintro x w1 ⟨rfl, g⟩
    have HR1 := Lib.hid (HR0.out.keep g)
    have B1 := B0.trans (g.mono B0.size)
    have HL1 := Lib.hid ((HL0.out.below g (Nat.le_refl _)).grow g.size)
    clear g c0 c1 c2 c3 c4 hgl
    obtain ⟨c0, c1, c2, c3, c4, hgl, _⟩ := fv_of (b := ⟨k, p, e, q, l⟩) HR1.out
    simp only at c0 c1 c2 c3 c4
    go_wp2_with fail
    refine (E1.out _ HL1.out (Nat.le_refl _)).mono ?_
    rintro x w2 ⟨rfl, g⟩
    have HR2 := Lib.hid (HR1.out.keep g)
    have B2 := B1.trans (g.mono B1.size)
    have HL2 := Lib.hid ((HL1.out.below g (Nat.le_refl _)).grow g.size)
    clear g c0 c1 c2 c3 c4 hgl
    obtain ⟨c0, c1, c2, c3, c4, hgl, _⟩ := fv_of (b := ⟨k, p, e, q, l⟩) HR2.out
    simp only at c0 c1 c2 c3 c4
    go_wp2_with fail
    refine (C1.out _ HL2.out (Nat.le_refl _)).mono ?_
    rintro x w3 ⟨rfl, g3⟩
    go_wp2_with fail
    refine (awake6_walk _).mono ?_
    rintro x w4 ⟨rfl, g4⟩
    go_wp2_with fail
    go_ret
    exact ⟨rfl, B2.trans ((gtrans g3 g4).mono B2.size)⟩
end Go.Proofs.Ytdeenkpkcibebaa
