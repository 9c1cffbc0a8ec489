/- The walk of the statement VarintOnly of layer 1. -/
import Derived.Test.YtmllefbejnjljaaAwake1
import Derived.IntWalk
namespace Go.Proofs.Ytmllefbejnjljaa
open Go.RowKit Vm
set_option linter.unusedVariables false
set_option maxRecDepth 100000 in
set_option maxHeartbeats 2000000 in
theorem varintOnly_law (s : ByteArray) (w : World) (hs : s.size ≤ 140737488351232) :
    Calls Try.prog 6 #[.string s] w fun e w' => e = .returned (.bool true) ∧ Below w.heap.size w w' := by
  have hs' : s.size ≤ maxLen := by unfold maxLen; omega
  rcases takeA_cases s with ht | ⟨n, r, ht, hn, he⟩
  · have hs2 : str [] = ⟨#[]⟩ := rfl
    go_enter Try.func6, Try.ntmps6
    go_wp2_with fail
    refine (take_walk _ _ hs').mono ?_
    rintro e w1 ⟨rfl, h1⟩
    go_wp2_with fail
    refine (awake1_walk _).mono ?_
    rintro e w3 ⟨rfl, h3⟩
    go_wp2_with fail
    go_ret
    exact ⟨rfl, gtrans (h1.below _) h3⟩
  · have hq := bytes_eq s
    have hcat : str (putL n) ++ str r = s := by
      rw [← str_data s, he]
      apply ByteArray.ext
      rw [ByteArray.data_append]
      simp [str]
    have hl : (str (putL n)).size ≤ 10 := by rw [str_size]; exact putL_len hn
    have hl2 : (str r).size ≤ 140737488351232 := by
      have : (str (putL n) ++ str r).size = s.size := by rw [hcat]
      rw [ByteArray.size_append] at this
      omega
    have HE := Lib.hid he
    clear he
    go_enter Try.func6, Try.ntmps6
    go_wp2_with fail
    refine (take_walk _ _ hs').mono ?_
    rintro e w1 ⟨rfl, h1⟩
    go_wp2_with fail
    refine (put_walk _ _ hn).mono ?_
    rintro e w2 ⟨rfl, h2⟩
    go_wp2_with fail
    refine (awake1_walk _).mono ?_
    rintro e w3 ⟨rfl, h3⟩
    go_wp2_with fail
    go_ret
    exact ⟨rfl, gtrans (gtrans (h1.below _) h2) h3⟩
end Go.Proofs.Ytmllefbejnjljaa
