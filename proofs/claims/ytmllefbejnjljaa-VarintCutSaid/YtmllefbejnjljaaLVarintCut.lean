/- The walk of the statement VarintCut of layer 1. -/
import Derived.Test.YtmllefbejnjljaaPutAll
import Derived.Test.YtmllefbejnjljaaTakeAll
import Derived.Test.YtmllefbejnjljaaSame
namespace Go.Proofs.Ytmllefbejnjljaa
open Go.RowKit Vm
set_option linter.unusedVariables false

theorem cut_starts {w : World} {a : Option Addr} {len : Nat} {xs : List Int} (hlen : xs.length = len) (hrow : Sl w w.heap.size a (i64s xs)) (hwf : ∀ x ∈ xs, I64 x) :
    (64 < len ∧ ∃ ys : List Int, ys.length = 64 ∧ Sl w w.heap.size a (i64s ys) ∧ ∀ x ∈ ys, I64 x) ∨ (len ≤ 64 ∧ ∃ ys : List Int, ys.length = len ∧ Sl w w.heap.size a (i64s ys) ∧ ∀ x ∈ ys, I64 x) := by
  by_cases h : 64 < len
  · refine .inl ⟨h, xs.take 64, by simp; omega, ?_, fun x hx => hwf x (List.mem_of_mem_take hx)⟩
    rcases hrow with h0 | ⟨b, off, e, hlt, hc⟩
    · rw [← i64s_length, h0] at hlen; simp at hlen; omega
    · refine .inr ⟨b, off, e, hlt, fun j u hu => hc j u ?_⟩
      have hj : j < 64 := by
        have := (List.getElem?_eq_some_iff.1 hu).1
        simp [i64s] at this; omega
      rw [← hu]; simp [i64s, hj]
  · exact .inr ⟨by omega, xs, hlen, hrow, hwf⟩

theorem extract_list (s : ByteArray) (k : Nat) : (s.extract 0 k).data.toList = s.data.toList.take k := by rw [← str_take, str_toList]

set_option maxRecDepth 100000 in
set_option maxHeartbeats 8000000 in
theorem varintCut_law (a : Option Addr) (len cap : Nat) (zs : List Int) (cut : Int) (more : ByteArray) (w : World) (hr : IsRow .i64 w a len cap zs) (hcap : cap * 8 ≤ 140737488351232) (hn0 : (Lit.int .i64 cut).wf = true) (hm : more.size ≤ 140737488351232) :
    Calls Try.prog 11 #[.slice a len cap, .int .i64 cut, .string more] w fun e w' => e = .returned (.bool true) ∧ Below w.heap.size w w' := by
  have hcut := wf_i64 hn0
  unfold I64 at hcut
  have hlc : len ≤ cap := by
    rcases hr with ⟨_, rfl, rfl, _⟩ | ⟨x, _, hl, _⟩ <;> omega
  have hs := cut_starts (row_len hr) (Sl.row hr) (fun x hx => wf_i64 (row_wf hr x hx))
  clear hn0 hr
  have hqm := bytes_eq more
  rcases hs with ⟨hlen, ys, hyl, hrow, hwf⟩ | ⟨hlen, ys, hyl, hrow, hwf⟩
  all_goals
    have hp := putN_len ys hwf
    have hpl : (str (putN ys)).size = (putN ys).length := str_size _
    have hps : (str (putN ys)).size ≤ 640 := by omega
    have htk : takeN ys.length (str (putN ys) ++ more).data.toList = some (ys, more.data.toList) := by rw [str_append]; exact takeN_put ys hwf _
    have hsz : (str (putN ys) ++ more).size ≤ 140737488351232 + 640 := by rw [ByteArray.size_append]; omega
    have hsm := str_data more
    have HW := Lib.hid hwf
    have HT := Lib.hid htk
    have HY := Lib.hid hyl
    have HZ := Lib.hid hsz
    have HP := Lib.hid hpl
    clear hwf htk hyl hsz hp hpl
    by_cases hc : cut < 0 ∨ ((str (putN ys)).size : Int) ≤ cut
    · by_cases hc0 : cut < 0
      all_goals
        have hc2 : 0 ≤ cut → ((str (putN ys)).size : Int) ≤ cut := by omega
        clear hc
        first | (have hc1 : ((str (putN ys)).size : Int) ≤ cut := hc2 (by omega); clear hc2) | clear hc2
        go_enter Try.func11, Try.ntmps11
        go_wp2_with fail
        refine (put_all_walk _ _ _ _ ys _ HY.out.symm (by omega) hrow (Nat.le_refl _) HW.out).mono ?_
        rintro e w1 ⟨rfl, g1⟩
        go_wp2_with fail
        refine (take_all_at _ _ ys.length (by have := HY.out; omega) _ _ _ (by have := HZ.out; omega) (by have := HY.out; omega) HT.out).mono ?_
        rintro e w2 ⟨a1, c1, rfl, own1, g2⟩
        have sl1 := own_sl own1
        clear own1
        go_wp2_with fail
        refine (same_at _ _ _ _ _ _ _ _ ys _ rfl (by have := HY.out; omega) (by have := HY.out; omega) sl1 (hrow.below (gtrans g1 g2) (Nat.le_refl _))).mono ?_
        rintro e w3 ⟨rfl, g3⟩
        go_wp2_with fail
        refine (awake1_walk _).mono ?_
        rintro e w4 ⟨rfl, g4⟩
        go_wp2_with fail
        go_ret
        exact ⟨rfl, gtrans (gdrew (gtrans g1 g2) g3) g4⟩
    · obtain ⟨m, rfl⟩ : ∃ m : Nat, cut = m := ⟨cut.toNat, by omega⟩
      have hm1 : m < (str (putN ys)).size := by omega
      have hm2 : (m : Int) < ((str (putN ys)).size : Int) := by omega
      have hno : takeN ys.length ((str (putN ys)).extract 0 m).data.toList = none := by
        rw [extract_list, str_toList]; exact takeN_cut ys HW.out m (by have := HP.out; omega)
      have HNo := Lib.hid hno
      have hxs : ((str (putN ys)).extract 0 m).size ≤ 640 := by
        have := toList_length ((str (putN ys)).extract 0 m)
        rw [extract_list, str_toList, List.length_take] at this
        have := HP.out; omega
      have HXS := Lib.hid hxs
      clear hc hno hxs
      go_enter Try.func11, Try.ntmps11
      go_wp2_with fail
      refine (put_all_walk _ _ _ _ ys _ HY.out.symm (by omega) hrow (Nat.le_refl _) HW.out).mono ?_
      rintro e w1 ⟨rfl, g1⟩
      go_wp2_with fail
      refine (take_all_at _ _ ys.length (by have := HY.out; omega) _ _ _ (by have := HZ.out; omega) (by have := HY.out; omega) HT.out).mono ?_
      rintro e w2 ⟨a1, c1, rfl, own1, g2⟩
      have sl1 := own_sl own1
      clear own1
      go_wp2_with fail
      refine (same_at _ _ _ _ _ _ _ _ ys _ rfl (by have := HY.out; omega) (by have := HY.out; omega) sl1 (hrow.below (gtrans g1 g2) (Nat.le_refl _))).mono ?_
      rintro e w3 ⟨rfl, g3⟩
      go_wp2_with fail
      refine (take_none_at _ _ ys.length (by have := HY.out; omega) _ (by have := HXS.out; omega) (by have := HY.out; omega) HNo.out).mono ?_
      rintro e w4 ⟨rfl, g4⟩
      go_wp2_with fail
      refine (awake1_walk _).mono ?_
      rintro e w5 ⟨rfl, g5⟩
      go_wp2_with fail
      go_ret
      exact ⟨rfl, gtrans (gtrans (gdrew (gtrans g1 g2) g3) g4) g5⟩
end Go.Proofs.Ytmllefbejnjljaa
