/- The walk of chapter 32's example; of the texts that are cut. -/
import Derived.Test.YtnhchmbbhkgccaaLzPack
import Derived.Test.YtnhchmbbhkgccaaLzRUn
namespace Go.Proofs.Ytnhchmbbhkgccaa
open Go.RowKit Vm Lz
set_option linter.unusedVariables false
set_option linter.unusedSimpArgs false

def E32 : List UInt8 := [97, 98, 99, 100, 97, 98, 99, 100, 97, 98, 99, 100]
theorem U_ex : U [] [8, 97, 98, 10, 4] [97, 98, 97, 98, 97, 98, 97, 98] := by
  have e1 : putL (2 * ((2 : Nat) : Int)) = [8] := by unfold putL; rw [show zig (2 * ((2 : Nat) : Int)) = 8 from rfl, enc_small (by omega)]; rfl
  have e2 : putL (2 * ((2 : Nat) : Int) + 1) = [10] := by unfold putL; rw [show zig (2 * ((2 : Nat) : Int) + 1) = 10 from rfl, enc_small (by omega)]; rfl
  have e3 : putL ((2 : Nat) : Int) = [4] := by unfold putL; rw [show zig ((2 : Nat) : Int) = 4 from rfl, enc_small (by omega)]; rfl
  have p1 := piece_plain (t := []) (x := [97, 98]) (z := [10, 4]) (m := 2) (by omega) (by unfold I64; omega) rfl
  rw [e1] at p1
  have p2 := piece_again (t := [97, 98]) (z := []) (m := 2) (b := 2) (by unfold I64; omega) (by omega) (by omega) (by simp)
  rw [e2, e3] at p2
  exact .step p1 (.step p2 (.nil _))
set_option maxRecDepth 100000 in
set_option maxHeartbeats 8000000 in
theorem awake32_walk (w : World) : Calls Try.prog 11 #[] w fun e w' => e = .returned (.bool true) ∧ Below w.heap.size w w' := by
  have K1 := Lib.hid (fun w => unpack_walk (str [8, 97, 98, 10, 4]) 100 w (by omega) (by rw [str_size]; unfold maxLen; simp))
  have K2 := Lib.hid (fun w => unpack_walk (str [8, 97, 98, 10, 4]) 7 w (by omega) (by rw [str_size]; unfold maxLen; simp))
  have K3 := Lib.hid (fun w => pack_walk (str E32) w (by rw [str_size]; unfold E32; simp))
  rw [str_toList, un_of_U U_ex (by simp)] at K1
  rw [str_toList, un_of_big U_ex (by simp) (by simp)] at K2
  rw [str_toList] at K3
  unfold unV at K1 K2
  have e1 : str [97, 98, 97, 98, 97, 98, 97, 98] = { data := #[97, 98, 97, 98, 97, 98, 97, 98] } := rfl
  simp only [e1] at K1
  have e0 : str [8, 97, 98, 10, 4] = { data := #[8, 97, 98, 10, 4] } := rfl
  have e : str E32 = { data := #[97, 98, 99, 100, 97, 98, 99, 100, 97, 98, 99, 100] } := rfl
  go_enter Try.func11, Try.ntmps11
  go_wp2_with fail
  refine (K1.out _).mono ?_
  rintro e w1 ⟨rfl, b1⟩
  clear K1
  go_wp2_with fail
  refine (K2.out _).mono ?_
  rintro e w2 ⟨rfl, b2⟩
  clear K2
  go_wp2_with fail
  refine (K3.out _).mono ?_
  rintro e w3 ⟨t, ht, rfl, b3⟩
  obtain ⟨hu, hl⟩ := pack_U ht (by unfold E32; simp)
  have K4 := Lib.hid (unpack_walk (str t) 12 w3 (by omega) (by rw [str_size]; unfold maxLen; have : E32.length = 12 := rfl; omega))
  rw [str_toList, un_of_U hu (by unfold E32; simp)] at K4
  unfold unV at K4
  simp only [e] at K4
  have b3' := gtrans (gtrans b1 b2) b3
  clear K3 ht hu hl b1 b2 b3
  go_wp2_with fail
  refine K4.out.mono ?_
  rintro e w4 ⟨rfl, b4⟩
  clear K4
  go_wp2_with fail
  go_ret
  exact ⟨by first | rfl | (unfold E32; rfl), gtrans b3' b4⟩
/-- A text, or its beginning. -/
def cutS (k : Nat) (s : ByteArray) : ByteArray := if s.size ≤ k then s else s.extract 0 k
theorem cutS_size (k : Nat) (s : ByteArray) : (cutS k s).size ≤ k := by
  unfold cutS
  by_cases h : s.size ≤ k
  · rw [if_pos h]; exact h
  · rw [if_neg h, extract_size s k (by omega)]; omega
set_option maxRecDepth 100000 in
theorem cut_walk (s : ByteArray) (w : World) (hs : s.size ≤ maxLen) : Calls Try.prog 12 #[.string s] w fun e w' => e = .returned (.string (cutS 20000 s)) ∧ Below w.heap.size w w' := by
  unfold maxLen at hs
  by_cases h : s.size ≤ 20000
  · have h1 : (s.size : Int) ≤ 20000 := by omega
    have e : cutS 20000 s = s := by unfold cutS; rw [if_pos h]
    rw [e]
    go_enter Try.func12, Try.ntmps12
    go_wp2_with fail
    go_ret
    exact ⟨rfl, Below.refl _ _⟩
  · have h1 : ¬ (s.size : Int) ≤ 20000 := by omega
    have e : cutS 20000 s = s.extract 0 20000 := by unfold cutS; rw [if_neg h]
    rw [e]
    go_enter Try.func12, Try.ntmps12
    go_wp2_with fail
    go_ret
    exact ⟨rfl, Below.refl _ _⟩
end Go.Proofs.Ytnhchmbbhkgccaa
