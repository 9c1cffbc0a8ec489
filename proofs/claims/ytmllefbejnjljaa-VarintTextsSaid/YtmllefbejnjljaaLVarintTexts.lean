/- The walk of the statement VarintTexts of layer 1. -/
import Derived.Test.YtmllefbejnjljaaText
namespace Go.Proofs.Ytmllefbejnjljaa
open Go.RowKit Vm
set_option linter.unusedVariables false

set_option maxRecDepth 100000 in
set_option maxHeartbeats 4000000 in
theorem varintTexts_law (s : ByteArray) (most : Int) (more : ByteArray) (w : World) (hs : s.size ≤ 140737488351232) (hm0 : (Lit.int .i64 most).wf = true) (hm : more.size ≤ 140737488351232) :
    Calls Try.prog 9 #[.string s, .int .i64 most, .string more] w fun e w' => e = .returned (.bool true) ∧ Below w.heap.size w w' := by
  have hmost := wf_i64 hm0
  unfold I64 at hmost
  clear hm0
  by_cases h1 : 5000 < s.size
  · have h1' : (5000 : Int) < (s.size : Int) := by omega
    go_enter Try.func9, Try.ntmps9
    go_wp2_with fail
    refine (awake1_walk _).mono ?_
    rintro e w3 ⟨rfl, h3⟩
    go_wp2_with fail
    go_ret
    exact ⟨rfl, h3⟩
  · by_cases h2 : 5000 < more.size
    · have h2' : (5000 : Int) < (more.size : Int) := by omega
      go_enter Try.func9, Try.ntmps9
      go_wp2_with fail
      refine (awake1_walk _).mono ?_
      rintro e w3 ⟨rfl, h3⟩
      go_wp2_with fail
      go_ret
      exact ⟨rfl, h3⟩
    · have hml : s.size ≤ maxLen := by unfold maxLen; omega
      have hi : I64 (s.size : Int) := ⟨by omega, by omega⟩
      have hl : (str (putL s.size)).size ≤ 10 := by rw [str_size]; exact putL_len hi
      have hq1 := bytes_eq (str (textA s most).1)
      have hq2 := bytes_eq (str (textA s most).2.1)
      have hq3 := bytes_eq (str (putL s.size) ++ s)
      have hq4 := bytes_eq s
      have hq5 := bytes_eq more
      have hcat : (str (putL s.size) ++ s ++ more).data.toList = putL s.data.toList.length ++ (s.data.toList ++ more.data.toList) := by
        rw [ByteArray.data_append, Array.toList_append, str_append, toList_length, List.append_assoc]
      have hlen := toList_length s
      have ht1 := textA_put _ _ _ (s.size : Int) (by omega) (by omega) hcat
      have ht2 := textA_less _ _ _ ((s.size : Int) - 1) (by omega) (by omega) hcat
      have hss := str_data s
      have hsm := str_data more
      have hsz : (str (putL s.size) ++ s ++ more).size ≤ maxLen := by rw [ByteArray.size_append, ByteArray.size_append]; unfold maxLen; omega
      have HZ := Lib.hid hsz
      have HL := Lib.hid hlen
      clear hsz hlen hcat
      go_enter Try.func9, Try.ntmps9
      go_wp2_with fail
      refine (take_text_walk _ _ _ hml).mono ?_
      rintro e w1 ⟨rfl, g1⟩
      go_wp2_with fail
      refine (ref_take_text_walk _ _ _ hml).mono ?_
      rintro e w2 ⟨rfl, g2⟩
      go_wp2_with fail
      refine (put_text_walk _ _ hs).mono ?_
      rintro e w3 ⟨rfl, g3⟩
      go_wp2_with fail
      refine (ref_text_walk _ _ hs).mono ?_
      rintro e w4 ⟨rfl, g4⟩
      go_wp2_with fail
      refine (put_text_walk _ _ hs).mono ?_
      rintro e w5 ⟨rfl, g5⟩
      go_wp2_with fail
      refine (take_text_walk _ _ _ HZ.out).mono ?_
      rintro e w6 ⟨rfl, g6⟩
      go_wp2_with fail
      refine (put_text_walk _ _ hs).mono ?_
      rintro e w7 ⟨rfl, g7⟩
      go_wp2_with fail
      refine (take_text_walk _ _ _ HZ.out).mono ?_
      rintro e w8 ⟨rfl, g8⟩
      go_wp2_with fail
      refine (awake1_walk _).mono ?_
      rintro e w9 ⟨rfl, g9⟩
      go_wp2_with fail
      go_ret
      exact ⟨rfl, gtrans (gdrew (gtrans (gdrew (gtrans (gtrans (gtrans (gtrans (g1.below _) g2) g3) g4) g5) g6) g7) g8) g9⟩
end Go.Proofs.Ytmllefbejnjljaa
