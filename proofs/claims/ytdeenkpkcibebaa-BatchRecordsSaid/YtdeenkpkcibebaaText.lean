/- The walks of TakeText, PutText and their references. -/
import Derived.Test.YtdeenkpkcibebaaPut
import Derived.Test.YtdeenkpkcibebaaTake
import Derived.Test.YtdeenkpkcibebaaRefTake
import Derived.IntWalk
import Derived.Deep.QuietTactic
import Derived.BigQuiet
namespace Go.Proofs.Ytdeenkpkcibebaa
open Go.RowKit Vm
set_option linter.unusedVariables false
set_option maxRecDepth 100000 in
set_option maxHeartbeats 2000000 in
theorem take_text_walk (s : ByteArray) (most : Int) (w : World) (hs : s.size ≤ maxLen) :
    Calls Try.prog 55 #[.string s, .int .i64 most] w fun e w' => e = .returned (.tuple #[.string (str (textA s most).1), .string (str (textA s most).2.1), .int .i64 (textA s most).2.2]) ∧ Drew w w' := by
  have hs2 : str [] = ⟨#[]⟩ := rfl
  cases ht : takeL s.data.toList with
  | none =>
    have ha : takeA s = (0, [], 2) := by unfold takeA; rw [ht]
    have hx : textA s most = ([], [], 2) := by unfold textA; rw [ht]
    clear ht
    go_enter Try.func55, Try.ntmps55
    go_wp2_with fail
    refine (take_walk _ _ hs).mono ?_
    rintro e w1 ⟨rfl, h1⟩
    go_wp2_with fail
    go_ret3
    exact ⟨by rw [hx]; rfl, h1⟩
  | some p =>
    obtain ⟨n, r⟩ := p
    have ha : takeA s = (n, r, 0) := by unfold takeA; rw [ht]
    have hsp := takeL_some ht
    have hrl : (str r).size ≤ s.size := by
      have h2 := congrArg List.length hsp.2
      rw [List.length_append, toList_length] at h2
      rw [str_size]; omega
    have hi := hsp.1
    have HE := Lib.hid hsp.2
    unfold I64 at hi
    unfold maxLen at hs
    have hrs := str_size r
    by_cases hbad : n < 0 ∨ most < n ∨ (r.length : Int) < n
    · have hx : textA s most = ([], [], 2) := by unfold textA; rw [ht]; simp only; rw [if_pos hbad]
      rw [← hrs] at hbad
      have HR := Lib.hid hrs
      clear ht hsp hrs
      by_cases h0 : n < 0
      · clear hbad
        go_enter Try.func55, Try.ntmps55
        go_wp2_with fail
        refine (take_walk _ _ hs).mono ?_
        rintro e w1 ⟨rfl, h1⟩
        go_wp2_with fail
        go_ret3
        exact ⟨by rw [hx]; rfl, h1⟩
      · by_cases h2 : most < n
        · clear hbad
          go_enter Try.func55, Try.ntmps55
          go_wp2_with fail
          refine (take_walk _ _ hs).mono ?_
          rintro e w1 ⟨rfl, h1⟩
          go_wp2_with fail
          go_ret3
          exact ⟨by rw [hx]; rfl, h1⟩
        · have h3 : ((str r).size : Int) < n := by omega
          clear hbad
          go_enter Try.func55, Try.ntmps55
          go_wp2_with fail
          refine (take_walk _ _ hs).mono ?_
          rintro e w1 ⟨rfl, h1⟩
          go_wp2_with fail
          go_ret3
          exact ⟨by rw [hx]; rfl, h1⟩
    · have hx : textA s most = (r.take n.toNat, r.drop n.toNat, 0) := by unfold textA; rw [ht]; simp only; rw [if_neg hbad]
      rw [← hrs] at hbad
      have HR := Lib.hid hrs
      clear ht hsp hrs
      obtain ⟨m, rfl⟩ : ∃ m : Nat, n = m := ⟨n.toNat, by omega⟩
      have h1 : (m : Int) ≤ most := by omega
      have h2 : m ≤ (str r).size := by omega
      have h3 : (m : Int) ≤ ((str r).size : Int) := by omega
      have e1 : str (r.take m) = (str r).extract 0 m := by rw [← str_take, str_toList]
      have e2 : str (r.drop m) = (str r).extract m (str r).size := by rw [← str_drop, str_toList]
      have E1 := Lib.hid e1
      have E2 := Lib.hid e2
      clear hbad e1 e2
      go_enter Try.func55, Try.ntmps55
      go_wp2_with fail
      refine (take_walk _ _ hs).mono ?_
      rintro e w1 ⟨rfl, h1⟩
      go_wp2_with fail
      go_quiet (fail)
      go_wp2
      go_ret3
      exact ⟨by rw [hx]; simp only [Int.toNat_natCast]; rw [E1.out, E2.out]; rfl, h1.trans (Drew.of _ _)⟩
set_option maxRecDepth 100000 in
set_option maxHeartbeats 2000000 in
theorem ref_take_text_walk (s : ByteArray) (most : Int) (w : World) (hs : s.size ≤ maxLen) :
    Calls Try.prog 57 #[.string s, .int .i64 most] w fun e w' => e = .returned (.tuple #[.string (str (textA s most).1), .string (str (textA s most).2.1), .int .i64 (textA s most).2.2]) ∧ Below w.heap.size w w' := by
  have hs2 : str [] = ⟨#[]⟩ := rfl
  cases ht : takeL s.data.toList with
  | none =>
    have ha : takeA s = (0, [], 2) := by unfold takeA; rw [ht]
    have hx : textA s most = ([], [], 2) := by unfold textA; rw [ht]
    clear ht
    go_enter Try.func57, Try.ntmps57
    go_wp2_with fail
    refine (ref_take_walk _ _ hs).mono ?_
    rintro e w1 ⟨rfl, h1⟩
    go_wp2_with fail
    go_ret3
    exact ⟨by rw [hx]; rfl, h1⟩
  | some p =>
    obtain ⟨n, r⟩ := p
    have ha : takeA s = (n, r, 0) := by unfold takeA; rw [ht]
    have hsp := takeL_some ht
    have hrl : (str r).size ≤ s.size := by
      have h2 := congrArg List.length hsp.2
      rw [List.length_append, toList_length] at h2
      rw [str_size]; omega
    have hi := hsp.1
    have HE := Lib.hid hsp.2
    unfold I64 at hi
    unfold maxLen at hs
    have hrs := str_size r
    by_cases hbad : n < 0 ∨ most < n ∨ (r.length : Int) < n
    · have hx : textA s most = ([], [], 2) := by unfold textA; rw [ht]; simp only; rw [if_pos hbad]
      rw [← hrs] at hbad
      have HR := Lib.hid hrs
      clear ht hsp hrs
      by_cases h0 : n < 0
      · clear hbad
        go_enter Try.func57, Try.ntmps57
        go_wp2_with fail
        refine (ref_take_walk _ _ hs).mono ?_
        rintro e w1 ⟨rfl, h1⟩
        go_wp2_with fail
        go_ret3
        exact ⟨by rw [hx]; rfl, h1⟩
      · by_cases h2 : most < n
        · clear hbad
          go_enter Try.func57, Try.ntmps57
          go_wp2_with fail
          refine (ref_take_walk _ _ hs).mono ?_
          rintro e w1 ⟨rfl, h1⟩
          go_wp2_with fail
          go_ret3
          exact ⟨by rw [hx]; rfl, h1⟩
        · have h3 : ((str r).size : Int) < n := by omega
          clear hbad
          go_enter Try.func57, Try.ntmps57
          go_wp2_with fail
          refine (ref_take_walk _ _ hs).mono ?_
          rintro e w1 ⟨rfl, h1⟩
          go_wp2_with fail
          go_ret3
          exact ⟨by rw [hx]; rfl, h1⟩
    · have hx : textA s most = (r.take n.toNat, r.drop n.toNat, 0) := by unfold textA; rw [ht]; simp only; rw [if_neg hbad]
      rw [← hrs] at hbad
      have HR := Lib.hid hrs
      clear ht hsp hrs
      obtain ⟨m, rfl⟩ : ∃ m : Nat, n = m := ⟨n.toNat, by omega⟩
      have h1 : (m : Int) ≤ most := by omega
      have h2 : m ≤ (str r).size := by omega
      have h3 : (m : Int) ≤ ((str r).size : Int) := by omega
      have e1 : str (r.take m) = (str r).extract 0 m := by rw [← str_take, str_toList]
      have e2 : str (r.drop m) = (str r).extract m (str r).size := by rw [← str_drop, str_toList]
      have E1 := Lib.hid e1
      have E2 := Lib.hid e2
      clear hbad e1 e2
      go_enter Try.func57, Try.ntmps57
      go_wp2_with fail
      refine (ref_take_walk _ _ hs).mono ?_
      rintro e w1 ⟨rfl, h1⟩
      go_wp2_with fail
      go_quiet (fail)
      go_wp2
      go_ret3
      exact ⟨by rw [hx]; simp only [Int.toNat_natCast]; rw [E1.out, E2.out]; rfl, h1.trans (below_drewN _ _ _)⟩
set_option maxRecDepth 100000 in
set_option maxHeartbeats 1000000 in
theorem put_text_walk (s : ByteArray) (w : World) (hs : s.size ≤ 140737488351232) :
    Calls Try.prog 58 #[.string s] w fun e w' => e = .returned (.string (str (putL s.size) ++ s)) ∧ Below w.heap.size w w' := by
  have hi : I64 (s.size : Int) := ⟨by omega, by omega⟩
  have hl : (str (putL s.size)).size ≤ 10 := by rw [str_size]; exact putL_len hi
  go_enter Try.func58, Try.ntmps58
  go_wp2_with fail
  refine (put_walk _ _ hi).mono ?_
  rintro e w1 ⟨rfl, h1⟩
  go_wp2_with fail
  go_ret
  exact ⟨rfl, h1⟩
set_option maxRecDepth 100000 in
set_option maxHeartbeats 1000000 in
theorem ref_text_walk (s : ByteArray) (w : World) (hs : s.size ≤ 140737488351232) :
    Calls Try.prog 59 #[.string s] w fun e w' => e = .returned (.string (str (putL s.size) ++ s)) ∧ Below w.heap.size w w' := by
  have hi : I64 (s.size : Int) := ⟨by omega, by omega⟩
  have hl : (str (putL s.size)).size ≤ 10 := by rw [str_size]; exact putL_len hi
  go_enter Try.func59, Try.ntmps59
  go_wp2_with fail
  refine (ref_put_walk _ _ hi).mono ?_
  rintro e w1 ⟨rfl, h1⟩
  go_wp2_with fail
  go_ret
  exact ⟨rfl, h1⟩
end Go.Proofs.Ytdeenkpkcibebaa
