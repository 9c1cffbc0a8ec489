/- The walks of chapter 3's examples, and of light. -/
import Derived.Test.YteckddlcecleaaaRefFrTake
namespace Go.Proofs.Yteckddlcecleaaa
open Go.RowKit Vm Cm Fm
set_option linter.unusedVariables false

set_option maxHeartbeats 1000000 in
theorem light_yes (s : ByteArray) (w : World) (h : (s.size : Int) ≤ 100000) :
    Calls Try.prog 17 #[.string s] w fun e w' => e = .returned (.bool true) ∧ w = w' := by
  go_enter Try.func17, Try.ntmps17
  go_wp2
  go_ret
  exact ⟨rfl, rfl⟩
set_option maxHeartbeats 1000000 in
theorem light_no (s : ByteArray) (w : World) (h : ¬ (s.size : Int) ≤ 100000) :
    Calls Try.prog 17 #[.string s] w fun e w' => e = .returned (.bool false) ∧ w = w' := by
  go_enter Try.func17, Try.ntmps17
  go_wp2
  go_ret
  exact ⟨rfl, rfl⟩

theorem frame_one : frameL 0 1 [97] = [6, 0, 2, 97] ++ four (sum [6, 0, 2, 97]) := by
  have h0 : putL 0 = [0] := by unfold putL zig; rw [enc_small (by decide)]; rfl
  have h1 : putL 1 = [2] := by unfold putL zig; rw [enc_small (by decide)]; rfl
  have h3 : putL 3 = [6] := by unfold putL zig; rw [enc_small (by decide)]; rfl
  have hb : bodyL 0 1 [97] = [0, 2, 97] := by unfold bodyL; rw [h0, h1]; rfl
  unfold frameL seal'
  have hh : headL (bodyL 0 1 [97]) = [6, 0, 2, 97] := by rw [hb]; unfold headL; rw [show (([0, 2, 97] : List UInt8).length : Int) = 3 from rfl, h3]; rfl
  rw [hh]

set_option maxRecDepth 100000 in
set_option maxHeartbeats 2000000 in
theorem awake3_walk (w : World) :
    Calls Try.prog 18 #[] w fun e w' => e = .returned (.bool true) ∧ Below w.heap.size w w' := by
  have hm : MayE 0 1 (⟨#[97]⟩ : ByteArray).data.toList := by unfold MayE; decide
  have H1 := Lib.hid (fun w => flay_yes 0 1 ⟨#[97]⟩ w hm)
  have e1 : frameL 0 1 (⟨#[97]⟩ : ByteArray).data.toList = [6, 0, 2, 97] ++ four (sum [6, 0, 2, 97]) := frame_one
  rw [e1] at H1
  have hz : (str ([6, 0, 2, 97] ++ four (sum [6, 0, 2, 97]))).size = 8 := by rw [str_size]; rfl
  have h4 : (str ([6, 0, 2, 97] ++ four (sum [6, 0, 2, 97]))).extract 0 4 = ⟨#[6, 0, 2, 97]⟩ := by rw [← str_take, str_toList]; rfl
  have hf : Fr (str ([6, 0, 2, 97] ++ four (sum [6, 0, 2, 97])) ++ ⟨#[98]⟩).data.toList 0 1 [97] [98] := by
    refine ⟨hm, ?_⟩
    rw [str_append, frame_one]
  have hz2 : (str ([6, 0, 2, 97] ++ four (sum [6, 0, 2, 97])) ++ ⟨#[98]⟩).size ≤ 140737488355328 := by
    rw [ByteArray.size_append, hz]; decide
  have H2 := Lib.hid (fun w => ftake_yes (str ([6, 0, 2, 97] ++ four (sum [6, 0, 2, 97])) ++ ⟨#[98]⟩) 0 1 [97] [98] w hz2 hf)
  have hs1 : str [97] = ⟨#[97]⟩ := rfl
  have hs2 : str [98] = ⟨#[98]⟩ := rfl
  have hq1 := bytes_eq ⟨#[97]⟩
  have hq2 := bytes_eq ⟨#[98]⟩
  have hq3 := bytes_eq ⟨#[6, 0, 2, 97]⟩
  rw [hs1, hs2] at H2
  clear hm e1 hf hz2 hs1 hs2
  generalize str ([6, 0, 2, 97] ++ four (sum [6, 0, 2, 97])) = S at *
  go_enter Try.func18, Try.ntmps18
  go_wp2_with fail
  refine (H1.out _).mono ?_
  rintro e w1 ⟨rfl, g1⟩
  go_wp2_with fail
  refine (H2.out _).mono ?_
  rintro e w2 ⟨rfl, g2⟩
  go_wp2_with fail
  go_ret
  exact ⟨rfl, ((gtrans g1 g2).alloc (gtrans g1 g2).size _)⟩
end Go.Proofs.Yteckddlcecleaaa
