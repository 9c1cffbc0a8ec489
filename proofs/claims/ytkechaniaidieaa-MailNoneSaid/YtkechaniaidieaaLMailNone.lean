/- The walk of the statement MailNone of layer 24. -/
import Derived.Test.YtkechaniaidieaaAwake24
namespace Go.Proofs.Ytkechaniaidieaa
open Go.RowKit Vm
set_option linter.unusedVariables false
set_option linter.unusedSimpArgs false

theorem str_nil0 : str [] = ByteArray.empty := rfl
set_option maxRecDepth 100000 in
set_option maxHeartbeats 4000000 in
theorem mailNone_law (d f p : Int) (s : ByteArray) (w : World) (hd : (Lit.int .i64 d).wf = true) (hf : (Lit.int .i64 f).wf = true) (hp : (Lit.int .i64 p).wf = true) (hs : s.size ≤ 140737488351232) :
    Calls Try.prog 7 #[.int .i64 d, .int .i64 f, .int .i64 p, .string s] w fun e w' => e = .returned (.bool true) ∧ Below w.heap.size w w' := by
  have K1 := Lib.hid (fun w => take_nil p w)
  have K2 := Lib.hid (fun v w => send_nil d f v w)
  have K3 := Lib.hid (fun w => twice_nil p w)
  have K4 := Lib.hid (fun w => mlen_nil w)
  have K5 := Lib.hid (fun w => mlist_nil w)
  have hq : ∀ w, (binOp .eql 37 (.agg #[.int .i64 0, .int .i64 0, .int .i64 0, .string ByteArray.empty]) (.agg #[.int .i64 0, .int .i64 0, .int .i64 0, .string ByteArray.empty])).run Try.prog w = .ok (.bool true) w := fun w => by kernel_rfl
  clear hd hf hp hs
  unfold pkV pk0 at K1
  simp only [str_nil0] at K1
  go_enter Try.func7, Try.ntmps7
  go_wp2_with fail
  refine (K1.out _).mono ?_
  rintro e w1 ⟨rfl, g1⟩
  have hal := balloc w1 (.cells #[.int .i64 0, .int .i64 0, .int .i64 0, .string ByteArray.empty] 37)
  have X2 := Whole.new w1 37 #[.int .i64 0, .int .i64 0, .int .i64 0, .string ByteArray.empty]
  have b2 := gtrans g1 hal
  go_upto_region 3 with fail
  obtain ⟨w2, hw2⟩ : ∃ w2, w2 = w1.alloc (.cells #[.int .i64 0, .int .i64 0, .int .i64 0, .string ByteArray.empty] 37) := ⟨_, rfl⟩
  rw [← hw2] at X2 b2 ⊢
  clear hw2 hal
  have hal3 := balloc w2 (.cells #[.string s] 9)
  have X3 := X2.keep hal3
  have b3 := gtrans b2 hal3
  go_wp2_with fail
  refine (K2.out _ _).mono ?_
  rintro e w4 ⟨rfl, g4⟩
  have X4 := X3.keep g4
  have b4 := gtrans b3 g4
  obtain ⟨⟨x0, x1, x2, x3⟩, _, hxl⟩ := X4.four
  go_wp2_with (simp only [hq])
  refine (K3.out _).mono ?_
  rintro e w5 ⟨rfl, g5⟩
  go_wp2_with fail
  refine (K4.out _).mono ?_
  rintro e w6 ⟨rfl, g6⟩
  go_wp2_with fail
  refine (K5.out _).mono ?_
  rintro e w7 ⟨rfl, g7⟩
  have b7 := gtrans (gtrans (gtrans b4 g5) g6) g7
  go_wp2_with fail
  refine (awake24_walk _).mono ?_
  rintro e w8 ⟨rfl, g8⟩
  go_wp2_with fail
  go_ret
  exact ⟨rfl, gtrans b7 g8⟩
end Go.Proofs.Ytkechaniaidieaa
