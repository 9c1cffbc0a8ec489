/- The walk of the statement FoldBack of layer 15. -/
import Derived.Test.YtnjojbanbcahnaaLFoldCodes
import Derived.Test.YtnjojbanbcahnaaLFoldSums
import Derived.Test.YtnjojbanbcahnaaMayAll
namespace Go.Proofs.Ytnjojbanbcahnaa
open Go.RowKit Vm Fo
set_option linter.unusedVariables false

theorem nums_of {a : Ag} {l : List UInt8} (ha : AgWf a) (h : l = putN (numsA a)) : takeN 10 l = some (numsA a, []) := by
  have := takeN_put (numsA a) (numsA_i64 ha) []
  rw [List.append_nil] at this
  rw [h]; exact this
/-- What was read was laid so. -/
theorem dec_back (s : ByteArray) (hs : s.size ≤ 140737488355328) : (∃ D : Ag, AgWf D ∧ May D ∧ s = str (putN (numsA D)) ∧ ∀ w, Calls Try.prog 42 #[.string s] w fun e w' => e = .returned (.tuple #[av D, .int .i64 0]) ∧ Below w.heap.size w w') ∨
    (∃ D : Ag, ∀ w, Calls Try.prog 42 #[.string s] w fun e w' => e = .returned (.tuple #[av D, .int .i64 2]) ∧ Below w.heap.size w w') := by
  cases h : takeN 10 s.data.toList with
  | none => exact .inr ⟨_, fun w => fdec_none s w hs h⟩
  | some p =>
    obtain ⟨vs, r⟩ := p
    by_cases hr : r = []
    · subst hr
      obtain ⟨b, rfl⟩ := ten_nums (takeN_len h)
      obtain ⟨hi, he⟩ := takeN_of h
      rw [List.append_nil] at he
      by_cases hm : May b
      · refine .inl ⟨b, nums_wf hi, hm, ?_, fun w => fdec_got s b b 0 w hs h (.inl ⟨hm, rfl, rfl⟩)⟩
        apply ByteArray.ext
        apply Array.ext'
        rw [str_toList]; exact he
      · exact .inr ⟨zeroA, fun w => fdec_got s b zeroA 2 w hs h (.inr ⟨hm, rfl, rfl⟩)⟩
    · exact .inr ⟨_, fun w => fdec_rest s vs r w hs h hr⟩
set_option maxRecDepth 100000 in
set_option maxHeartbeats 4000000 in
theorem foldBack_law (a : Option Addr) (len cap : Nat) (zs : List Int) (s : ByteArray) (w : World) (hr : IsRow .i64 w a len cap zs) (hcap : cap * 8 ≤ 140737488351232) (hs : s.size ≤ 140737488351232) :
    Calls Try.prog 15 #[.slice a len cap, .string s] w fun e w' => e = .returned (.bool true) ∧ Below w.heap.size w w' := by
  obtain ⟨xs, hxl, hsl, hxi, hl1, hl2⟩ := row_some hr
  have HXL := Lib.hid hxl
  have HXI := Lib.hid hxi
  clear hr hxl hxi
  go_enter Try.func15, Try.ntmps15
  go_wp2_with fail
  refine (some_walk a len cap _ hl1 hl2).mono ?_
  rintro e w1 ⟨rfl, rfl⟩
  obtain ⟨N, hN⟩ : ∃ N, N = min len 300 := ⟨_, rfl⟩
  rw [← hN] at HXL ⊢
  have hN3 : N ≤ 300 := by omega
  clear hN
  by_cases hz : 1000 < (s.size : Int)
  · go_wp2_with fail
    refine (awake15_walk _).mono ?_
    rintro e w2 ⟨rfl, g2⟩
    go_wp2_with fail
    go_ret
    exact ⟨rfl, g2⟩
  have hwf := allA_wf HXI.out
  have HA := Lib.hid (fun w' (h : Below w.heap.size w w') => all_walk a N cap _ xs w' HXL.out.symm (by omega) (hsl.below h (Nat.le_refl _)) h.size HXI.out)
  have hzero : N = 0 → ∀ w, Calls Try.prog 40 #[av (allA xs)] w fun e w' => e = .returned (.tuple #[.string ⟨#[]⟩, .int .i64 1]) ∧ Below w.heap.size w w' := fun h w' => by
    refine fenc_no (allA xs) w' hwf fun m => ?_
    have : xs = [] := List.length_eq_zero_iff.1 (HXL.out.trans h)
    subst this
    exact absurd m.c1 (by decide)
  have hyes : ¬ N = 0 → (∀ w, Calls Try.prog 40 #[av (allA xs)] w fun e w' => e = .returned (.tuple #[.string (str (putN (numsA (allA xs)))), .int .i64 0]) ∧ Below w.heap.size w w') ∧
      (∀ w, Calls Try.prog 42 #[.string (str (putN (numsA (allA xs))))] w fun e w' => e = .returned (.tuple #[av (allA xs), .int .i64 0]) ∧ Below w.heap.size w w') := fun h => by
    have hm : May (allA xs) := all_may (by rintro rfl; exact h HXL.out.symm) (by rw [HXL.out]; omega)
    have hz := putN_small (numsA (allA xs)) (numsA_i64 hwf) (by simp [numsA])
    exact ⟨fun w' => fenc_yes _ w' hwf hm, fun w' => fdec_got _ (allA xs) (allA xs) 0 w' (by omega) (nums_of hwf (str_toList _)) (.inl ⟨hm, rfl, rfl⟩)⟩
  generalize allA xs = A at *
  have HZ := Lib.hid hzero
  have HY := Lib.hid hyes
  generalize str (putN (numsA A)) = X at *
  have hq : ∀ w, (binOp .eql 53 (.agg #[.int .i64 A.count, .int .i64 A.sum, .int .i64 A.min, .int .i64 A.max, .int .i64 A.h0, .int .i64 A.h1, .int .i64 A.h2, .int .i64 A.h3, .int .i64 A.re, .int .i64 A.im]) (.agg #[.int .i64 A.count, .int .i64 A.sum, .int .i64 A.min, .int .i64 A.max, .int .i64 A.h0, .int .i64 A.h1, .int .i64 A.h2, .int .i64 A.h3, .int .i64 A.re, .int .i64 A.im])).run Try.prog w = .ok (.bool true) w := fun w => agg_eq A w
  clear hzero hyes hwf
  rcases dec_back s (by omega) with ⟨D, hD, hM, hS, K⟩ | ⟨D, K⟩
  · have HK := Lib.hid K
    have HE1 := Lib.hid (fun w => fenc_yes D w hD hM)
    rw [← hS] at HE1
    have hqs := bytes_eq s
    clear K hD hM hS
    go_wp2_with fail
    refine (HK.out _).mono ?_
    rintro e w2 ⟨rfl, g2⟩
    have hal2 : Below w2.heap.size w2 (w2.alloc (.cells (avc D) 53)) := (Below.refl _ _).alloc (Nat.le_refl _) _
    have B2 := Lib.hid (gtrans g2 hal2)
    obtain ⟨c0, c1, c2, c3, c4, c5, c6, c7, c8, c9, _⟩ := (Whole.new w2 53 (avc D)).ten
    clear g2 hal2
    go_wp2_with fail
    refine (HE1.out _).mono ?_
    rintro e w3 ⟨rfl, g3⟩
    have HB := Lib.hid (B2.out.trans (g3.mono B2.out.size))
    clear c0 c1 c2 c3 c4 c5 c6 c7 c8 c9 g3
    go_wp2_with fail
    refine (HA.out _ HB.out).mono ?_
    rintro e w5 ⟨rfl, g5⟩
    have hal5 : Below w5.heap.size w5 (w5.alloc (.cells (avc A) 53)) := (Below.refl _ _).alloc (Nat.le_refl _) _
    have B5 := Lib.hid (gtrans (gtrans HB.out g5) hal5)
    have N5 := Lib.hid (Whole.new w5 53 (avc A))
    clear g5 hal5
    obtain ⟨c0, c1, c2, c3, c4, c5, c6, c7, c8, c9, _⟩ := N5.out.ten
    by_cases hn : N = 0
    · subst hn
      have HE := Lib.hid (HZ.out rfl)
      go_wp2_with fail
      refine (HE.out _).mono ?_
      rintro e w6 ⟨rfl, g6⟩
      have B6 := Lib.hid (B5.out.trans (g6.mono B5.out.size))
      clear c0 c1 c2 c3 c4 c5 c6 c7 c8 c9 g6
      go_wp2_with fail
      refine (awake15_walk _).mono ?_
      rintro e w7 ⟨rfl, g7⟩
      go_wp2_with fail
      go_ret
      exact ⟨rfl, gtrans B6.out g7⟩
    · have hn2 : ¬ (N : Int) = 0 := by omega
      have HE := Lib.hid (HY.out hn).1
      have HD := Lib.hid (HY.out hn).2
      go_wp2_with fail
      refine (HE.out _).mono ?_
      rintro e w6 ⟨rfl, g6⟩
      have B6 := Lib.hid (B5.out.trans (g6.mono B5.out.size))
      have N6 := Lib.hid (N5.out.keep g6)
      clear c0 c1 c2 c3 c4 c5 c6 c7 c8 c9 g6
      go_wp2_with fail
      refine (HD.out _).mono ?_
      rintro e w7 ⟨rfl, g7⟩
      have hal7 : Below w7.heap.size w7 (w7.alloc (.cells (avc A) 53)) := (Below.refl _ _).alloc (Nat.le_refl _) _
      have B7 := Lib.hid (gtrans (gtrans B6.out g7) hal7)
      have N7 := Lib.hid ((N6.out.keep g7).keep hal7)
      have M7 := Lib.hid (Whole.new w7 53 (avc A))
      clear g7 hal7
      obtain ⟨c0, c1, c2, c3, c4, c5, c6, c7, c8, c9, _⟩ := N7.out.ten
      obtain ⟨d0, d1, d2, d3, d4, d5, d6, d7, d8, d9, _⟩ := M7.out.ten
      simp only [avc] at c0 c1 c2 c3 c4 c5 c6 c7 c8 c9 d0 d1 d2 d3 d4 d5 d6 d7 d8 d9
      go_wp2_with fail
      refine (awake15_walk _).mono ?_
      rintro e w8 ⟨rfl, g8⟩
      go_wp2_with fail
      go_ret
      exact ⟨rfl, gtrans B7.out g8⟩
  · have HK := Lib.hid K
    clear K
    go_wp2_with fail
    refine (HK.out _).mono ?_
    rintro e w2 ⟨rfl, g2⟩
    have hal2 : Below w2.heap.size w2 (w2.alloc (.cells (avc D) 53)) := (Below.refl _ _).alloc (Nat.le_refl _) _
    have HB := Lib.hid (gtrans g2 hal2)
    clear g2 hal2
    go_wp2_with fail
    refine (HA.out _ HB.out).mono ?_
    rintro e w5 ⟨rfl, g5⟩
    have hal5 : Below w5.heap.size w5 (w5.alloc (.cells (avc A) 53)) := (Below.refl _ _).alloc (Nat.le_refl _) _
    have B5 := Lib.hid (gtrans (gtrans HB.out g5) hal5)
    have N5 := Lib.hid (Whole.new w5 53 (avc A))
    clear g5 hal5
    obtain ⟨c0, c1, c2, c3, c4, c5, c6, c7, c8, c9, _⟩ := N5.out.ten
    by_cases hn : N = 0
    · subst hn
      have HE := Lib.hid (HZ.out rfl)
      go_wp2_with fail
      refine (HE.out _).mono ?_
      rintro e w6 ⟨rfl, g6⟩
      have B6 := Lib.hid (B5.out.trans (g6.mono B5.out.size))
      clear c0 c1 c2 c3 c4 c5 c6 c7 c8 c9 g6
      go_wp2_with fail
      refine (awake15_walk _).mono ?_
      rintro e w7 ⟨rfl, g7⟩
      go_wp2_with fail
      go_ret
      exact ⟨rfl, gtrans B6.out g7⟩
    · have hn2 : ¬ (N : Int) = 0 := by omega
      have HE := Lib.hid (HY.out hn).1
      have HD := Lib.hid (HY.out hn).2
      go_wp2_with fail
      refine (HE.out _).mono ?_
      rintro e w6 ⟨rfl, g6⟩
      have B6 := Lib.hid (B5.out.trans (g6.mono B5.out.size))
      have N6 := Lib.hid (N5.out.keep g6)
      clear c0 c1 c2 c3 c4 c5 c6 c7 c8 c9 g6
      go_wp2_with fail
      refine (HD.out _).mono ?_
      rintro e w7 ⟨rfl, g7⟩
      have hal7 : Below w7.heap.size w7 (w7.alloc (.cells (avc A) 53)) := (Below.refl _ _).alloc (Nat.le_refl _) _
      have B7 := Lib.hid (gtrans (gtrans B6.out g7) hal7)
      have N7 := Lib.hid ((N6.out.keep g7).keep hal7)
      have M7 := Lib.hid (Whole.new w7 53 (avc A))
      clear g7 hal7
      obtain ⟨c0, c1, c2, c3, c4, c5, c6, c7, c8, c9, _⟩ := N7.out.ten
      obtain ⟨d0, d1, d2, d3, d4, d5, d6, d7, d8, d9, _⟩ := M7.out.ten
      simp only [avc] at c0 c1 c2 c3 c4 c5 c6 c7 c8 c9 d0 d1 d2 d3 d4 d5 d6 d7 d8 d9
      go_wp2_with fail
      refine (awake15_walk _).mono ?_
      rintro e w8 ⟨rfl, g8⟩
      go_wp2_with fail
      go_ret
      exact ⟨rfl, gtrans B7.out g8⟩
end Go.Proofs.Ytnjojbanbcahnaa
