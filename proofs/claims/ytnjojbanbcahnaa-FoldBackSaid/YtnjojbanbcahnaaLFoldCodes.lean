/- The walk of the statement FoldCodes of layer 15. -/
import Derived.Test.YtnjojbanbcahnaaRefFoldDec
import Derived.Test.YtnjojbanbcahnaaRefFoldEnc
import Derived.Test.YtnjojbanbcahnaaFoldAll
import Derived.Test.YtnjojbanbcahnaaAggOpen
namespace Go.Proofs.Ytnjojbanbcahnaa
open Go.RowKit Vm Fo
set_option linter.unusedVariables false

theorem enc_both (a : Ag) (ha : AgWf a) : ∃ (X : ByteArray) (K : Int), (∀ w, Calls Try.prog 40 #[av a] w fun e w' => e = .returned (.tuple #[.string X, .int .i64 K]) ∧ Below w.heap.size w w') ∧
    (∀ w, Calls Try.prog 41 #[av a] w fun e w' => e = .returned (.tuple #[.string X, .int .i64 K]) ∧ Below w.heap.size w w') ∧ codeA a = K := by
  by_cases hm : May a
  · exact ⟨_, _, fun w => fenc_yes a w ha hm, fun w => renc_yes a w ha hm, codeA_yes hm⟩
  · exact ⟨_, _, fun w => fenc_no a w ha hm, fun w => renc_no a w ha hm, codeA_no hm⟩
theorem dec_both (s : ByteArray) (hs : s.size ≤ 140737488355328) : ∃ (D : Ag) (E : Int), (∀ w, Calls Try.prog 42 #[.string s] w fun e w' => e = .returned (.tuple #[av D, .int .i64 E]) ∧ Below w.heap.size w w') ∧
    (∀ w, Calls Try.prog 43 #[.string s] w fun e w' => e = .returned (.tuple #[av D, .int .i64 E]) ∧ Below w.heap.size w w') := by
  cases h : takeN 10 s.data.toList with
  | none => exact ⟨_, _, fun w => fdec_none s w hs h, fun w => rdec_none s w hs h⟩
  | some p =>
    obtain ⟨vs, r⟩ := p
    by_cases hr : r = []
    · subst hr
      obtain ⟨b, rfl⟩ := ten_nums (takeN_len h)
      by_cases hm : May b
      · exact ⟨b, 0, fun w => fdec_got s b b 0 w hs h (.inl ⟨hm, rfl, rfl⟩), fun w => rdec_got s b b 0 w hs h (.inl ⟨hm, rfl, rfl⟩)⟩
      · exact ⟨zeroA, 2, fun w => fdec_got s b zeroA 2 w hs h (.inr ⟨hm, rfl, rfl⟩), fun w => rdec_got s b zeroA 2 w hs h (.inr ⟨hm, rfl, rfl⟩)⟩
    · exact ⟨_, _, fun w => fdec_rest s vs r w hs h hr, fun w => rdec_rest s vs r w hs h hr⟩

set_option maxRecDepth 100000 in
set_option maxHeartbeats 4000000 in
theorem foldCodes_law (a : Ag) (s : ByteArray) (w : World) (ha : AgWf a) (hs : s.size ≤ 140737488351232) :
    Calls Try.prog 14 #[av a, .string s] w fun e w' => e = .returned (.bool true) ∧ Below w.heap.size w w' := by
  have hbel : Below w.heap.size w (w.alloc (.cells (avc a) 53)) := (Below.refl _ _).alloc (Nat.le_refl _) _
  have HB := Lib.hid hbel
  have R0 := Lib.hid (Whole.new w 53 (avc a))
  by_cases hz : 1000 < (s.size : Int)
  · clear ha hbel
    go_enter Try.func14, Try.ntmps14
    go_wp2_with fail
    refine (awake15_walk _).mono ?_
    rintro e w1 ⟨rfl, g1⟩
    go_wp2_with fail
    go_ret
    exact ⟨rfl, gtrans HB.out (g1.mono (by simp))⟩
  · obtain ⟨X, K, K1, K2, hK⟩ := enc_both a ha
    obtain ⟨D, E, K3, K4⟩ := dec_both s (by omega)
    have KC := Lib.hid (fun w => check15_walk a w ha)
    rw [hK] at KC
    have H1 := Lib.hid K1
    have H2 := Lib.hid K2
    have H3 := Lib.hid K3
    have H4 := Lib.hid K4
    have hqs := bytes_eq X
    have hq : ∀ w, (binOp .eql 53 (.agg #[.int .i64 D.count, .int .i64 D.sum, .int .i64 D.min, .int .i64 D.max, .int .i64 D.h0, .int .i64 D.h1, .int .i64 D.h2, .int .i64 D.h3, .int .i64 D.re, .int .i64 D.im]) (.agg #[.int .i64 D.count, .int .i64 D.sum, .int .i64 D.min, .int .i64 D.max, .int .i64 D.h0, .int .i64 D.h1, .int .i64 D.h2, .int .i64 D.h3, .int .i64 D.re, .int .i64 D.im])).run Try.prog w = .ok (.bool true) w := fun w => agg_eq D w
    clear K1 K2 K3 K4 hK ha hbel
    obtain ⟨c0, c1, c2, c3, c4, c5, c6, c7, c8, c9, _⟩ := R0.out.ten
    go_enter Try.func14, Try.ntmps14
    go_wp2_with fail
    refine (H1.out _).mono ?_
    rintro e w1 ⟨rfl, g1⟩
    have R1 := Lib.hid (R0.out.keep g1)
    have B1 := Lib.hid (HB.out.trans (g1.mono HB.out.size))
    clear c0 c1 c2 c3 c4 c5 c6 c7 c8 c9 g1
    obtain ⟨c0, c1, c2, c3, c4, c5, c6, c7, c8, c9, _⟩ := R1.out.ten
    go_wp2_with fail
    refine (H2.out _).mono ?_
    rintro e w2 ⟨rfl, g2⟩
    have R2 := Lib.hid (R1.out.keep g2)
    have B2 := Lib.hid (gtrans B1.out g2)
    clear c0 c1 c2 c3 c4 c5 c6 c7 c8 c9 g2
    go_wp2_with fail
    refine (H3.out _).mono ?_
    rintro e w3 ⟨rfl, g3⟩
    have hal3 : Below w3.heap.size w3 (w3.alloc (.cells (avc D) 53)) := (Below.refl _ _).alloc (Nat.le_refl _) _
    have R3 := Lib.hid ((R2.out.keep g3).keep hal3)
    have B3 := Lib.hid (gtrans (gtrans B2.out g3) hal3)
    have D3 := Lib.hid (Whole.new w3 53 (avc D))
    clear g3 hal3
    go_wp2_with fail
    refine (H4.out _).mono ?_
    rintro e w4 ⟨rfl, g4⟩
    have hal4 : Below w4.heap.size w4 (w4.alloc (.cells (avc D) 53)) := (Below.refl _ _).alloc (Nat.le_refl _) _
    have R4 := Lib.hid ((R3.out.keep g4).keep hal4)
    have B4 := Lib.hid (gtrans (B3.out.trans (g4.mono B3.out.size)) hal4)
    have D4 := Lib.hid ((D3.out.keep g4).keep hal4)
    have N4 := Lib.hid (Whole.new w4 53 (avc D))
    clear g4 hal4
    obtain ⟨c0, c1, c2, c3, c4, c5, c6, c7, c8, c9, _⟩ := R4.out.ten
    obtain ⟨d0, d1, d2, d3, d4, d5, d6, d7, d8, d9, _⟩ := D4.out.ten
    obtain ⟨n0, n1, n2, n3, n4, n5, n6, n7, n8, n9, _⟩ := N4.out.ten
    simp only [avc] at c0 c1 c2 c3 c4 c5 c6 c7 c8 c9 d0 d1 d2 d3 d4 d5 d6 d7 d8 d9 n0 n1 n2 n3 n4 n5 n6 n7 n8 n9
    go_wp2_with fail
    refine (KC.out _).mono ?_
    rintro e w5 ⟨rfl, g5⟩
    have B5 := Lib.hid (B4.out.trans (g5.mono B4.out.size))
    clear c0 c1 c2 c3 c4 c5 c6 c7 c8 c9 d0 d1 d2 d3 d4 d5 d6 d7 d8 d9 n0 n1 n2 n3 n4 n5 n6 n7 n8 n9 g5
    go_wp2_with fail
    refine (awake15_walk _).mono ?_
    rintro e w6 ⟨rfl, g6⟩
    go_wp2_with fail
    go_ret
    exact ⟨rfl, gtrans B5.out g6⟩
end Go.Proofs.Ytnjojbanbcahnaa
