/- The walk of the statement TxnCodes of layer 12. -/
import Derived.Test.YtfjnmjibifefgaaTxDec
import Derived.Test.YtfjnmjibifefgaaTxBeh
namespace Go.Proofs.Ytfjnmjibifefgaa
open Go.RowKit Vm
set_option linter.unusedVariables false

set_option maxRecDepth 100000 in
set_option maxHeartbeats 8000000 in
theorem txnCodes_law (k p m : Int) (s : ByteArray) (w : World) (hkw : (Lit.int .i64 k).wf = true) (hpw : (Lit.int .i64 p).wf = true) (hmw : (Lit.int .i64 m).wf = true) (hs : s.size ≤ 140737488351232) :
    Calls Try.prog 9 #[.agg #[.int .i64 k, .int .i64 p, .int .i64 m], .string s] w fun e w' => e = .returned (.bool true) ∧ Below w.heap.size w w' := by
  have hal := balloc w (.cells #[.int .i64 k, .int .i64 p, .int .i64 m] 50)
  have hWn := Whole.new w 50 #[.int .i64 k, .int .i64 p, .int .i64 m]
  have hzz : w.heap.size < (w.alloc (.cells #[.int .i64 k, .int .i64 p, .int .i64 m] 50)).heap.size := by simp
  clear hkw hpw hmw
  by_cases hbig : 1000 < s.size
  · have hb2 : (1000 : Int) < (s.size : Int) := by omega
    go_enter Try.func9, Try.ntmps9
    go_wp2_with fail
    refine (awake12_walk _).mono ?_
    rintro e w6 ⟨rfl, g6⟩
    go_wp2_with fail
    go_ret
    exact ⟨rfl, gtrans hal g6⟩
  · have hb2 : ¬ (1000 : Int) < (s.size : Int) := by omega
    obtain ⟨A, E, hA⟩ := encIs_ex k p m
    obtain ⟨X, F, hX⟩ := decIs_ex s.data.toList
    have H1 := Lib.hid (fun w => tenc_walk k p m A E w hA)
    have H2 := Lib.hid (fun w => renc12_walk k p m A E w hA)
    have H3 := Lib.hid (fun w => tdec_walk s w X F hX (by omega))
    have H4 := Lib.hid (fun w => rdec12_walk s w X F hX (by omega))
    have H5 := Lib.hid (fun w => tcheck_walk k p m E w (by rcases hA with ⟨h, _, rfl⟩ | ⟨h, _, rfl⟩; exact .inl ⟨h, rfl⟩; exact .inr ⟨h, rfl⟩))
    unfold DnPost at H3 H4
    have hF : (F = 0 ∧ EncIs X.k X.p X.m s 0) ∨ F = 2 := by
      rcases hX with ⟨h, rfl⟩ | ⟨_, _, rfl⟩
      · obtain ⟨h1, h2⟩ := decF_some h
        exact .inl ⟨rfl, .inl ⟨h1, by rw [← h2, str_data], rfl⟩⟩
      · exact .inr rfl
    have hE : (E = 0 ∧ DecIs A.data.toList ⟨k, p, m⟩ 0 ∧ A.size ≤ 30) ∨ E = 1 := by
      rcases hA with ⟨h, rfl, rfl⟩ | ⟨_, _, rfl⟩
      · refine .inl ⟨rfl, .inl ⟨by rw [str_toList]; exact decF_put h, rfl⟩, ?_⟩
        rw [str_size]
        exact putN_len _ (may_i64 h)
      · exact .inr rfl
    have HF := Lib.hid (fun h w => tenc_walk X.k X.p X.m s 0 w h)
    have HE := Lib.hid (fun h h2 w => tdec_walk A w ⟨k, p, m⟩ 0 h h2)
    unfold DnPost at HE
    clear hA hX
    obtain ⟨Xk, Xp, Xm⟩ := X
    simp only at H3 H4 HF HE hF
    go_enter Try.func9, Try.ntmps9
    go_wp2_with fail
    refine (H1.out _).mono ?_
    rintro e w1 ⟨rfl, g1⟩
    have hW1 := hWn.keep g1
    have e0 := hW1.cell 0
    have e1 := hW1.cell 1
    have e2 := hW1.cell 2
    simp only [List.getElem?_toArray, List.getElem?_cons_zero, List.getElem?_cons_succ] at e0 e1 e2
    have hz1 := Nat.lt_of_lt_of_le hzz g1.size
    go_wp2_with fail
    refine (H2.out _).mono ?_
    rintro e w2 ⟨rfl, g2⟩
    go_wp2_with fail
    refine (H3.out _).mono ?_
    rintro e w3 ⟨rfl, g3⟩
    have b3 := gtrans (gtrans (gtrans hal g1) g2) g3
    have hW3 := (hW1.keep g2).keep g3
    have hal3 := balloc w3 (.cells #[.int .i64 Xk, .int .i64 Xp, .int .i64 Xm] 50)
    have hC3 := Whole.new w3 50 #[.int .i64 Xk, .int .i64 Xp, .int .i64 Xm]
    have hz3 : w3.heap.size < (w3.alloc (.cells #[.int .i64 Xk, .int .i64 Xp, .int .i64 Xm] 50)).heap.size := by simp
    have hz03 : w.heap.size < w3.heap.size := by have := g2.size; have := g3.size; omega
    clear e0 e1 e2 hW1 hWn hal
    go_wp2_with fail
    refine (H4.out _).mono ?_
    rintro e w4 ⟨rfl, g4⟩
    have b4 := gtrans (gtrans (gtrans b3 hal3) g4) (balloc w4 (.cells #[.int .i64 Xk, .int .i64 Xp, .int .i64 Xm] 50))
    have hW4 := ((hW3.keep hal3).keep g4).keep (balloc w4 (.cells #[.int .i64 Xk, .int .i64 Xp, .int .i64 Xm] 50))
    have hC4 := (hC3.keep g4).keep (balloc w4 (.cells #[.int .i64 Xk, .int .i64 Xp, .int .i64 Xm] 50))
    have hD4 := Whole.new w4 50 #[.int .i64 Xk, .int .i64 Xp, .int .i64 Xm]
    have hz4 : w3.heap.size < w4.heap.size := Nat.lt_of_lt_of_le hz3 g4.size
    have hz5 : w4.heap.size < (w4.alloc (.cells #[.int .i64 Xk, .int .i64 Xp, .int .i64 Xm] 50)).heap.size := by simp
    have hz04 : w.heap.size < (w4.alloc (.cells #[.int .i64 Xk, .int .i64 Xp, .int .i64 Xm] 50)).heap.size := by omega
    have hz34 : w3.heap.size < (w4.alloc (.cells #[.int .i64 Xk, .int .i64 Xp, .int .i64 Xm] 50)).heap.size := by omega
    clear hal3 hC3 hW3 b3 g1 g2 g3 g4
    have e0 := hW4.cell 0
    have e1 := hW4.cell 1
    have e2 := hW4.cell 2
    have c0 := hC4.cell 0
    have c1 := hC4.cell 1
    have c2 := hC4.cell 2
    have d0 := hD4.cell 0
    have d1 := hD4.cell 1
    have d2 := hD4.cell 2
    simp only [List.getElem?_toArray, List.getElem?_cons_zero, List.getElem?_cons_succ] at e0 e1 e2 c0 c1 c2 d0 d1 d2
    go_wp2_with fail
    refine (H5.out _).mono ?_
    rintro e w5 ⟨rfl, g5⟩
    have hW5 := hW4.keep g5
    have hC5 := hC4.keep g5
    have b5 := gtrans b4 g5
    have hz05 := Nat.lt_of_lt_of_le hz04 g5.size
    clear e0 e1 e2 c0 c1 c2 d0 d1 d2 hW4 hC4 hD4 b4 hz04 hz34 hz5 hz4 hz3
    have e0 := hW5.cell 0
    have e1 := hW5.cell 1
    have e2 := hW5.cell 2
    have c0 := hC5.cell 0
    have c1 := hC5.cell 1
    have c2 := hC5.cell 2
    simp only [List.getElem?_toArray, List.getElem?_cons_zero, List.getElem?_cons_succ] at e0 e1 e2 c0 c1 c2
    rcases hF with ⟨rfl, hF⟩ | rfl
    · have HF := Lib.hid (HF.out hF)
      clear hF
      rcases hE with ⟨rfl, hE1, hE2⟩ | rfl
      · have HE := Lib.hid (HE.out hE1 (by omega))
        clear hE1
        go_wp2_with fail
        refine (HF.out _).mono ?_
        rintro e w6 ⟨rfl, g6⟩
        have hW6 := hW5.keep g6
        go_wp2_with fail
        refine (HE.out _).mono ?_
        rintro e w7 ⟨rfl, g7⟩
        have hW7 := (hW6.keep g7).keep (balloc w7 (.cells #[.int .i64 k, .int .i64 p, .int .i64 m] 50))
        clear e0 e1 e2 c0 c1 c2
        have e0 := hW7.cell 0
        have e1 := hW7.cell 1
        have e2 := hW7.cell 2
        simp only [List.getElem?_toArray, List.getElem?_cons_zero, List.getElem?_cons_succ] at e0 e1 e2
        have hz7 : w.heap.size < w7.heap.size := by have := g6.size; have := g7.size; omega
        have b7 := gtrans (gtrans (gtrans b5 g6) g7) (balloc w7 (.cells #[.int .i64 k, .int .i64 p, .int .i64 m] 50))
        go_wp2_with fail
        refine (awake12_walk _).mono ?_
        rintro e w8 ⟨rfl, g8⟩
        go_wp2_with fail
        go_ret
        exact ⟨rfl, gtrans b7 g8⟩
      · clear HE
        go_wp2_with fail
        refine (HF.out _).mono ?_
        rintro e w6 ⟨rfl, g6⟩
        go_wp2_with fail
        refine (awake12_walk _).mono ?_
        rintro e w8 ⟨rfl, g8⟩
        go_wp2_with fail
        go_ret
        exact ⟨rfl, gtrans (gtrans b5 g6) g8⟩
    · clear HF
      rcases hE with ⟨rfl, hE1, hE2⟩ | rfl
      · have HE := Lib.hid (HE.out hE1 (by omega))
        clear hE1
        go_wp2_with fail
        refine (HE.out _).mono ?_
        rintro e w7 ⟨rfl, g7⟩
        have hW7 := (hW5.keep g7).keep (balloc w7 (.cells #[.int .i64 k, .int .i64 p, .int .i64 m] 50))
        clear e0 e1 e2 c0 c1 c2
        have e0 := hW7.cell 0
        have e1 := hW7.cell 1
        have e2 := hW7.cell 2
        simp only [List.getElem?_toArray, List.getElem?_cons_zero, List.getElem?_cons_succ] at e0 e1 e2
        have hz7 : w.heap.size < w7.heap.size := by have := g7.size; omega
        have b7 := gtrans (gtrans b5 g7) (balloc w7 (.cells #[.int .i64 k, .int .i64 p, .int .i64 m] 50))
        go_wp2_with fail
        refine (awake12_walk _).mono ?_
        rintro e w8 ⟨rfl, g8⟩
        go_wp2_with fail
        go_ret
        exact ⟨rfl, gtrans b7 g8⟩
      · clear HE
        go_wp2_with fail
        refine (awake12_walk _).mono ?_
        rintro e w8 ⟨rfl, g8⟩
        go_wp2_with fail
        go_ret
        exact ⟨rfl, gtrans b5 g8⟩
end Go.Proofs.Ytfjnmjibifefgaa
