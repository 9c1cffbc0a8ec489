/- The walk of the statement VarintRows of layer 1. -/
import Derived.Test.YtmllefbejnjljaaPutAll
import Derived.Test.YtmllefbejnjljaaTakeAll
import Derived.Test.YtmllefbejnjljaaSame
namespace Go.Proofs.Ytmllefbejnjljaa
open Go.RowKit Vm
set_option linter.unusedVariables false

set_option maxRecDepth 100000 in
set_option maxHeartbeats 4000000 in
theorem varintRows_law (a : Option Addr) (len cap : Nat) (zs : List Int) (s : ByteArray) (n : Int) (w : World) (hr : IsRow .i64 w a len cap zs) (hcap : cap * 8 ≤ 140737488351232) (hs : s.size ≤ 140737488351232) (hn0 : (Lit.int .i64 n).wf = true) :
    Calls Try.prog 10 #[.slice a len cap, .string s, .int .i64 n] w fun e w' => e = .returned (.bool true) ∧ Below w.heap.size w w' := by
  have hn := wf_i64 hn0
  unfold I64 at hn
  have hlen := row_len hr
  have hrow := Sl.row hr
  have hwf : ∀ x ∈ zs.take len, I64 x := fun x hx => wf_i64 (row_wf hr x hx)
  have hle : len ≤ 17592186043904 := by
    rcases hr with ⟨_, rfl, _, _⟩ | ⟨x, _, hl, _⟩ <;> omega
  clear hn0 hr hcap
  obtain ⟨xs, hxs⟩ : ∃ xs, xs = zs.take len := ⟨_, rfl⟩
  rw [← hxs] at hlen hrow hwf
  clear hxs
  have HL := Lib.hid hlen
  have HW := Lib.hid hwf
  clear hlen hwf
  by_cases h1 : 200 < len
  · have h1' : (200 : Int) < (len : Int) := by omega
    go_enter Try.func10, Try.ntmps10
    go_wp2_with fail
    refine (awake1_walk _).mono ?_
    rintro e w3 ⟨rfl, h3⟩
    go_wp2_with fail
    go_ret
    exact ⟨rfl, h3⟩
  · by_cases h2 : 5000 < s.size
    · have h2' : (5000 : Int) < (s.size : Int) := by omega
      go_enter Try.func10, Try.ntmps10
      go_wp2_with fail
      refine (awake1_walk _).mono ?_
      rintro e w3 ⟨rfl, h3⟩
      go_wp2_with fail
      go_ret
      exact ⟨rfl, h3⟩
    · have hq := bytes_eq (str (putN xs))
      have hq0 := bytes_eq (str [])
      have hs0 : str [] = ⟨#[]⟩ := rfl
      by_cases hbad : n < 0 ∨ 64 < n
      · go_enter Try.func10, Try.ntmps10
        go_wp2_with fail
        refine (take_all_bad _ _ _ hbad).mono ?_
        rintro e w1 ⟨rfl, g1⟩
        go_wp2_with fail
        refine (ref_take_all_bad _ _ _ hbad).mono ?_
        rintro e w2 ⟨rfl, g2⟩
        go_wp2_with fail
        refine (put_all_walk _ _ _ _ xs _ HL.out.symm (by omega) ((hrow.below (gtrans g1 g2) (Nat.le_refl _))) (gtrans g1 g2).size HW.out).mono ?_
        rintro e w3 ⟨rfl, g3⟩
        go_wp2_with fail
        refine (ref_all_walk _ _ _ _ xs _ HL.out.symm (by omega) ((hrow.below (gtrans (gtrans g1 g2) g3) (Nat.le_refl _))) (gtrans (gtrans g1 g2) g3).size HW.out).mono ?_
        rintro e w4 ⟨rfl, g4⟩
        go_wp2_with fail
        refine (same_yes _ _ _ _ _ 0 0 [] _ rfl (by simp) (Sl.nil _ _ _) (Sl.nil _ _ _)).mono ?_
        rintro e w5 ⟨rfl, g5⟩
        go_wp2_with fail
        refine (awake1_walk _).mono ?_
        rintro e w6 ⟨rfl, g6⟩
        go_wp2_with fail
        go_ret
        exact ⟨rfl, gtrans (gdrew (gtrans (gtrans (gtrans g1 g2) g3) g4) g5) g6⟩
      · obtain ⟨m, rfl⟩ : ∃ m : Nat, n = m := ⟨n.toNat, by omega⟩
        rcases ho : takeN m s.data.toList with _ | ⟨vs, r⟩
        · have HO := Lib.hid ho
          clear ho
          go_enter Try.func10, Try.ntmps10
          go_wp2_with fail
          refine (take_all_none _ m _ (by omega) (by omega) HO.out).mono ?_
          rintro e w1 ⟨rfl, g1⟩
          go_wp2_with fail
          refine (ref_take_all_none _ m _ (by omega) (by omega) HO.out).mono ?_
          rintro e w2 ⟨rfl, g2⟩
          go_wp2_with fail
          refine (put_all_walk _ _ _ _ xs _ HL.out.symm (by omega) ((hrow.below (gtrans g1 g2) (Nat.le_refl _))) (gtrans g1 g2).size HW.out).mono ?_
          rintro e w3 ⟨rfl, g3⟩
          go_wp2_with fail
          refine (ref_all_walk _ _ _ _ xs _ HL.out.symm (by omega) ((hrow.below (gtrans (gtrans g1 g2) g3) (Nat.le_refl _))) (gtrans (gtrans g1 g2) g3).size HW.out).mono ?_
          rintro e w4 ⟨rfl, g4⟩
          go_wp2_with fail
          refine (same_yes _ _ _ _ _ 0 0 [] _ rfl (by simp) (Sl.nil _ _ _) (Sl.nil _ _ _)).mono ?_
          rintro e w5 ⟨rfl, g5⟩
          go_wp2_with fail
          refine (awake1_walk _).mono ?_
          rintro e w6 ⟨rfl, g6⟩
          go_wp2_with fail
          go_ret
          exact ⟨rfl, gtrans (gdrew (gtrans (gtrans (gtrans g1 g2) g3) g4) g5) g6⟩
        · have HO := Lib.hid ho
          have hvl := takeN_len ho
          have hqr := bytes_eq (str r)
          have HV := Lib.hid hvl
          clear ho hvl
          go_enter Try.func10, Try.ntmps10
          go_wp2_with fail
          refine (take_all_some _ m _ _ _ (by omega) (by omega) HO.out).mono ?_
          rintro e w1 ⟨a1, c1, rfl, own1, g1⟩
          go_wp2_with fail
          refine (ref_take_all_some _ m _ _ _ (by omega) (by omega) HO.out).mono ?_
          rintro e w2 ⟨a2, c2, rfl, own2, g2⟩
          have sl1 := own_sl own1
          have sl2 := own_sl own2
          clear own1 own2
          go_wp2_with fail
          refine (put_all_walk _ _ _ _ xs _ HL.out.symm (by omega) ((hrow.below (gtrans g1 g2) (Nat.le_refl _))) (gtrans g1 g2).size HW.out).mono ?_
          rintro e w3 ⟨rfl, g3⟩
          go_wp2_with fail
          refine (ref_all_walk _ _ _ _ xs _ HL.out.symm (by omega) ((hrow.below (gtrans (gtrans g1 g2) g3) (Nat.le_refl _))) (gtrans (gtrans g1 g2) g3).size HW.out).mono ?_
          rintro e w4 ⟨rfl, g4⟩
          go_wp2_with fail
          refine (same_yes _ _ _ _ _ _ _ vs _ rfl (by have := HV.out; omega) (sl1.below (gtrans (gtrans g2 g3) g4) (Nat.le_refl _)) (sl2.below (gtrans g3 g4) (Nat.le_refl _))).mono ?_
          rintro e w5 ⟨rfl, g5⟩
          go_wp2_with fail
          refine (awake1_walk _).mono ?_
          rintro e w6 ⟨rfl, g6⟩
          go_wp2_with fail
          go_ret
          exact ⟨rfl, gtrans (gdrew (gtrans (gtrans (gtrans g1 g2) g3) g4) g5) g6⟩
end Go.Proofs.Ytmllefbejnjljaa
