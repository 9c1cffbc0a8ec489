/- The walk of the statement CrcBack of layer 2. -/
import Derived.Test.YtiolpagilaabkaaUnseal
import Derived.Test.YtiolpagilaabkaaRefUnseal
namespace Go.Proofs.Ytiolpagilaabkaa
open Go.RowKit Vm Cm
set_option linter.unusedVariables false
set_option maxRecDepth 100000 in
set_option maxHeartbeats 4000000 in
theorem crcBack_law (s : ByteArray) (w : World) (hs : s.size ≤ 140737488351232) :
    Calls Try.prog 6 #[.string s] w fun e w' => e = .returned (.bool true) ∧ Below w.heap.size w w' := by
  have hm : s.size ≤ maxLen := by unfold maxLen; omega
  have hm2 : s.size ≤ 140737488355328 := by omega
  by_cases h1 : 100000 < s.size
  · have h1' : (100000 : Int) < (s.size : Int) := by omega
    go_enter Try.func6, Try.ntmps6
    go_wp2_with fail
    refine (awake2_walk _).mono ?_
    rintro e w3 ⟨rfl, rfl⟩
    go_wp2_with fail
    go_ret
    exact ⟨rfl, Below.refl _ _⟩
  · have hxl : (s ++ str (four (sum s.data.toList))).data.toList = seal' s.data.toList := by
      rw [ByteArray.data_append, Array.toList_append, str_toList]; rfl
    have hu : unsealA (s.data.toList ++ (str (four (sum s.data.toList))).data.toList) = (s.data.toList, 0) := by rw [str_toList]; exact unseal_seal _
    have hsz : (s ++ str (four (sum s.data.toList))).size ≤ maxLen := by rw [ByteArray.size_append, str_size, four_length]; unfold maxLen; omega
    have hss := str_data s
    have hq1 := bytes_eq s
    have hq0 := bytes_eq (str [])
    have hs0 : str [] = ⟨#[]⟩ := rfl
    have HZ := Lib.hid hsz
    have HU := Lib.hid hu
    clear hsz hxl hu
    rcases unseal_cases s.data.toList with hc | ⟨p, hc, hp⟩
    · have hcc := hc
      clear hc
      have hu := HU.out
      go_enter Try.func6, Try.ntmps6
      go_wp2_with fail
      refine (seal_walk _ _ hm2).mono ?_
      rintro e w1 ⟨rfl, g1⟩
      go_wp2_with fail
      refine (unseal_walk _ _ HZ.out).mono ?_
      rintro e w2 ⟨rfl, g2⟩
      go_wp2_with fail
      refine (unseal_walk _ _ hm).mono ?_
      rintro e w3 ⟨rfl, g3⟩
      go_wp2_with fail
      refine (awake2_walk _).mono ?_
      rintro e w5 ⟨rfl, rfl⟩
      go_wp2_with fail
      go_ret
      exact ⟨rfl, gtrans (gtrans g1 g2) g3⟩
    · have hps : str p ++ str (four (sum (str p).data.toList)) = s := by
        rw [str_toList, ← str_data s, hp]
        apply ByteArray.ext
        rw [ByteArray.data_append]
        simp [str, seal']
      have hpz : (str p).size ≤ 140737488355328 := by
        have := congrArg ByteArray.size hps
        rw [ByteArray.size_append] at this
        omega
      have HP := Lib.hid hp
      have HPZ := Lib.hid hpz
      have hu := HU.out
      have hps2 : str p ++ str (four (sum p)) = s := by rw [str_toList] at hps; exact hps
      clear hp hpz
      go_enter Try.func6, Try.ntmps6
      go_wp2_with fail
      refine (seal_walk _ _ hm2).mono ?_
      rintro e w1 ⟨rfl, g1⟩
      go_wp2_with fail
      refine (unseal_walk _ _ HZ.out).mono ?_
      rintro e w2 ⟨rfl, g2⟩
      go_wp2_with fail
      refine (unseal_walk _ _ hm).mono ?_
      rintro e w3 ⟨rfl, g3⟩
      go_wp2_with fail
      refine (seal_walk _ _ HPZ.out).mono ?_
      rintro e w4 ⟨rfl, g4⟩
      go_wp2_with fail
      refine (awake2_walk _).mono ?_
      rintro e w5 ⟨rfl, rfl⟩
      go_wp2_with fail
      go_ret
      exact ⟨rfl, gtrans (gtrans (gtrans g1 g2) g3) g4⟩
end Go.Proofs.Ytiolpagilaabkaa
