/- The walks of headgateref32.piece and headgateref32.Unpack. -/
import Derived.Test.YtnhchmbbhkgccaaLzUnpack
import Derived.Test.YtnhchmbbhkgccaaRefTake
namespace Go.Proofs.Ytnhchmbbhkgccaa
open Go.RowKit Vm Lz
set_option linter.unusedVariables false
set_option linter.unusedSimpArgs false

namespace Lz
theorem rep_at (b : Nat) (hb : 1 ≤ b) (t : List UInt8) (ht : b ≤ t.length) : ∀ j i, i < b + j → (rep b j t).getD (t.length - b + i) 0 = (t.drop (t.length - b)).getD (i % b) 0 := by
  intro j
  induction j with
  | zero =>
    intro i hi
    rw [Nat.mod_eq_of_lt (by omega)]
    simp [rep, List.getD, List.getElem?_drop]
  | succ j ih =>
    intro i hi
    rw [rep_snoc]
    have hl := rep_len b j t
    by_cases h : i < b + j
    · rw [← ih i h]
      simp [List.getD, List.getElem?_append_left (show t.length - b + i < (rep b j t).length by omega)]
    · obtain rfl : i = b + j := by omega
      have h1 := ih j (by omega)
      rw [Nat.add_mod_left, ← h1, show t.length - b + (b + j) = (rep b j t).length by omega, show t.length - b + j = (rep b j t).length - b by omega]
      simp [List.getD]
/-- A piece, with room for so many bytes. -/
def pieceM (M : Nat) (t s : List UInt8) : Option (List UInt8 × List UInt8) :=
  match pieceL t s with
  | some (t', s') => if t'.length ≤ M then some (t', s') else none
  | none => none
theorem pieceM_none {M : Nat} {t s : List UInt8} (h : pieceL t s = none) : pieceM M t s = none := by unfold pieceM; rw [h]
theorem pieceM_some {M : Nat} {t s t' s' : List UInt8} (h : pieceL t s = some (t', s')) (hl : t'.length ≤ M) : pieceM M t s = some (t', s') := by unfold pieceM; rw [h]; simp only; rw [if_pos hl]
theorem pieceM_big {M : Nat} {t s t' s' : List UInt8} (h : pieceL t s = some (t', s')) (hl : M < t'.length) : pieceM M t s = none := by unfold pieceM; rw [h]; simp only; rw [if_neg (by omega)]
end Lz
def pcV : Option (List UInt8 × List UInt8) → Value
  | some (t, s) => .tuple #[.string (str t), .string (str s), .int .i64 0]
  | none => .tuple #[.string (str []), .string (str []), .int .i64 2]
theorem str_one (P : List UInt8) (m : Nat) (hm : m < P.length) : (str P).extract m (m + 1) = str [P.getD m 0] := by
  have : (str P).extract m (m + 1) = str (((str P).data.toList.take (m + 1)).drop m) := by
    rw [← str_data ((str P).extract m (m + 1))]
    congr 1
    simp [List.drop_take]
  have h2 : List.drop m (List.take (m + 1) P) = [P.getD m 0] := by
    rw [List.drop_take, List.drop_eq_getElem_cons hm, show m + 1 - m = 1 by omega]
    show [P[m]] = [P.getD m 0]
    simp [List.getD, hm]
  rw [this, str_toList, h2]
theorem str_app (a b : List UInt8) : str a ++ str b = str (a ++ b) := by
  rw [← str_data (str a ++ str b), str_append, str_toList]
set_option maxRecDepth 100000 in
set_option maxHeartbeats 16000000 in
theorem rpiece_walk (T Z : ByteArray) (M : Nat) (w : World) (hM : M ≤ 1048576) (hT : T.size ≤ M) (hZ : Z.size ≤ maxLen) :
    Calls Try.prog 17 #[.string T, .string Z, .int .i64 M] w fun e w' => e = .returned (pcV (pieceM M T.data.toList Z.data.toList)) ∧ Below w.heap.size w w' := by
  have K := Lib.hid (ref_take_walk Z w hZ)
  have hTl : T.data.toList.length = T.size := toList_length T
  cases ht : takeL Z.data.toList with
  | none =>
    rw [Take.a_none ht] at K
    have HF := Lib.hid (pieceM_none (M := M) (pieceL_none (t := T.data.toList) ht))
    clear ht
    go_enter Try.func17, Try.ntmps17
    go_wp2_with fail
    refine K.out.mono ?_
    rintro e w1 ⟨rfl, d1⟩
    clear K
    go_wp2_with fail
    go_ret3
    exact ⟨by rw [HF.out]; rfl, d1⟩
  | some p =>
    obtain ⟨n1, r⟩ := p
    rw [Take.a_some ht] at K
    obtain ⟨hi1, hzr⟩ := takeL_some ht
    have hrl : r.length ≤ Z.size := by
      have := congrArg List.length hzr
      rw [List.length_append, toList_length] at this; omega
    have hzr2 : (str r).size ≤ maxLen := by rw [str_size]; omega
    by_cases h1 : n1 < 1
    · have HF := Lib.hid (pieceM_none (M := M) (pieceL_low (t := T.data.toList) ht h1))
      clear ht hzr
      go_enter Try.func17, Try.ntmps17
      go_wp2_with fail
      refine K.out.mono ?_
      rintro e w1 ⟨rfl, d1⟩
      clear K
      go_wp2_with fail
      go_ret3
      exact ⟨by rw [HF.out]; rfl, d1⟩
    · obtain ⟨k, hk⟩ : ∃ k : Nat, n1 / 2 = (k : Int) := ⟨(n1 / 2).toNat, by omega⟩
      have hkb : (k : Int) ≤ 4611686018427387904 := by unfold I64 at hi1; omega
      have h1d : decide (n1 < 1) = false := by simp; omega
      have h10 : 0 ≤ n1 := by omega
      have hrs := str_size r
      have hkw : wrap64 (n1 / 2) = (k : Int) := by rw [hk]; exact IntWalk.wrap64_in _ (by omega)
      by_cases he : n1 % 2 = 0
      · have hP := pieceL_even (t := T.data.toList) ht h1 he hk
        have ht1 : n1.tmod 2 = 0 := by rw [Int.tmod_eq_emod_of_nonneg h10]; exact he
        by_cases hf1 : k ≤ r.length
        · rw [if_pos hf1] at hP
          by_cases hf2 : T.size + k ≤ M
          · have HF := Lib.hid (pieceM_some (M := M) hP (by rw [List.length_append, List.length_take]; omega))
            have hb1 : (k : Int) ≤ ((str r).size : Int) := by omega
            have hb2 : (k : Int) ≤ (M : Int) - (T.size : Int) := by omega
            have hb3 : 0 ≤ (k : Int) := by omega
            have hes : ((str r).extract 0 k).size = k := extract_size _ k (by omega)
            have hcat : ¬ (9223372036854775807 < T.size + k) := by omega
            have HE := Lib.hid (show T ++ (str r).extract 0 k = str (T.data.toList ++ r.take k) by rw [← str_take, str_toList, ← str_app, str_data])
            unfold I64 at hi1
            clear ht hzr hP h1 he hTl hrs
            go_enter Try.func17, Try.ntmps17
            go_wp2_with fail
            refine K.out.mono ?_
            rintro e w1 ⟨rfl, d1⟩
            clear K
            go_upto_region 8 with fail
            go_region_held3 (fun _ => True) (trivial) (fail)
            go_wp2_with fail
            go_ret3
            exact ⟨by rw [HF.out, HE.out, ← str_drop, str_toList]; rfl, d1.drew⟩
          · have HF := Lib.hid (pieceM_big (M := M) hP (by rw [List.length_append, List.length_take]; omega))
            have hb1 : ¬ (str r).size < k := by omega
            have hb2 : (M : Int) - (T.size : Int) < (k : Int) := by omega
            unfold I64 at hi1
            clear ht hzr hP h1 he hTl hrs hf1 hf2
            go_enter Try.func17, Try.ntmps17
            go_wp2_with fail
            refine K.out.mono ?_
            rintro e w1 ⟨rfl, d1⟩
            clear K
            go_wp2_with fail
            go_ret3
            exact ⟨by rw [HF.out]; rfl, d1⟩
        · rw [if_neg hf1] at hP
          have HF := Lib.hid (pieceM_none (M := M) hP)
          have hb1 : (str r).size < k := by omega
          unfold I64 at hi1
          clear ht hzr hP h1 he hTl hrs hf1
          go_enter Try.func17, Try.ntmps17
          go_wp2_with fail
          refine K.out.mono ?_
          rintro e w1 ⟨rfl, d1⟩
          clear K
          go_wp2_with fail
          go_ret3
          exact ⟨by rw [HF.out]; rfl, d1⟩
      · have ht1 : n1.tmod 2 = 1 := by rw [Int.tmod_eq_emod_of_nonneg h10]; omega
        have K2' := fun w1 => ref_take_walk (str r) w1 hzr2
        cases ht2 : takeL r with
        | none =>
          rw [Take.a_none (by rw [str_toList]; exact ht2)] at K2'
          have HF := Lib.hid (pieceM_none (M := M) (pieceL_odd_none (t := T.data.toList) ht h1 he ht2))
          unfold I64 at hi1
          clear ht hzr h1 he hTl hrs ht2
          go_enter Try.func17, Try.ntmps17
          go_wp2_with fail
          refine K.out.mono ?_
          rintro e w1 ⟨rfl, d1⟩
          have K2 := Lib.hid (K2' w1)
          clear K
          go_wp2_with fail
          refine K2.out.mono ?_
          rintro e w2 ⟨rfl, d2⟩
          clear K2
          go_wp2_with fail
          go_ret3
          exact ⟨by rw [HF.out]; rfl, gtrans d1 d2⟩
        | some p =>
          obtain ⟨b1, r2⟩ := p
          rw [Take.a_some (n := b1) (r := r2) (by rw [str_toList]; exact ht2)] at K2'
          have hP := pieceL_odd (t := T.data.toList) ht h1 he hk ht2
          rw [hTl] at hP
          unfold I64 at hi1
          by_cases hf : 1 ≤ b1 ∧ b1 ≤ 4096 ∧ b1 ≤ (T.size : Int) ∧ T.size + k + 4 ≤ M
          · rw [if_pos (by omega)] at hP
            obtain ⟨b, rfl⟩ : ∃ b : Nat, b1 = (b : Int) := ⟨b1.toNat, by omega⟩
            rw [show ((b : Nat) : Int).toNat = b from rfl] at hP
            have HF := Lib.hid (pieceM_some (M := M) hP (by rw [rep_len]; omega))
            obtain ⟨hf1, hf2, hf3, hf4⟩ := hf
            have hf1 : ¬ (b : Int) < 1 := by omega
            have hf3' : ¬ T.size < b := by omega
            have hf5 : (k : Int) ≤ (M : Int) - (T.size : Int) - 4 := by omega
            obtain ⟨d, hd⟩ : ∃ d, T.size - b = d := ⟨_, rfl⟩
            have hwd : IntKind.i64.wrap ((T.size : Int) - (b : Int)) = (d : Int) := by rw [IntWalk.i64_in _ (by omega)]; omega
            have hwd2 : wrap64 ((T.size : Int) - (b : Int)) = (d : Int) := by rw [IntWalk.wrap64_in _ (by omega)]; omega
            have hd0 : 0 ≤ (d : Int) := by omega
            have hd1 : (d : Int) ≤ (T.size : Int) := by omega
            obtain ⟨P, hPd⟩ : ∃ P, T.data.toList.drop d = P := ⟨_, rfl⟩
            have hY : T.extract d T.size = str P := by rw [← str_drop, hPd]
            have hPl : P.length = b := by rw [← hPd, List.length_drop, hTl]; omega
            have HA := Lib.hid (fun j => show (rep b j T.data.toList).getD ((rep b j T.data.toList).length - b) 0 = P.getD (j % b) 0 by
              have := rep_at b (by omega) T.data.toList (by rw [hTl]; omega) j j (by omega)
              rw [hTl, hd, hPd] at this
              rw [← this, rep_len, hTl, show T.size + j - b = d + j by omega])
            have hPs : (str P).size = b := by rw [str_size, hPl]
            have HPl := Lib.hid hPl
            have HTl := Lib.hid hTl
            clear ht hzr hP h1 he hTl hrs ht2 hd hPd hPl
            go_enter Try.func17, Try.ntmps17
            go_wp2_with fail
            refine K.out.mono ?_
            rintro e w1 ⟨rfl, d1⟩
            have K2 := Lib.hid (K2' w1)
            clear K
            go_wp2_with fail
            refine K2.out.mono ?_
            rintro e w2 ⟨rfl, d2⟩
            have d3 := Lib.hid (gtrans d1 d2)
            clear K2 d1 d2 K2'
            go_upto_region 14 with fail
            clear hwd hwd2
            go_wp2_with fail
            go_loopw [17, 18] (fun O J wr => ∃ (j : Nat) (y : ByteArray), j ≤ k + 4 ∧ J = .int .i64 j ∧ O = .string y ∧ Hid (y = str (rep b j T.data.toList)) ∧ y.size = T.size + j ∧ Below w.heap.size w wr) (fun _ J _ => k + 4 - (intOf J).toNat)
            case atStart => exact ⟨0, T, by omega, rfl, rfl, Lib.hid (str_data T).symm, by omega, d3.out⟩
            case round =>
              obtain ⟨j, y, hj, rfl, rfl, HY, hys, hb⟩ := hrel
              by_cases hlt : j < k + 4
              · have hj1 : (j : Int) < (k : Int) + 4 := by omega
                obtain ⟨m, hm⟩ : ∃ m, j % b = m := ⟨_, rfl⟩
                have hmb : m < b := by rw [← hm]; exact Nat.mod_lt _ (by omega)
                have htm : (j : Int).tmod (b : Int) = (m : Int) := by rw [Int.tmod_eq_emod_of_nonneg (by omega), ← hm]; omega
                have hm0 : 0 ≤ (m : Int) := by omega
                have hb0 : ¬ b = 0 := by omega
                have hwm : IntKind.i64.wrap ((m : Int) + 1) = (m : Int) + 1 := IntWalk.i64_in _ (by omega)
                have hs0 : 0 ≤ (m : Int) + 1 := by omega
                have hs1 : (m : Int) + 1 ≤ (b : Int) := by omega
                have hs2 : (m : Int) ≤ (m : Int) + 1 := by omega
                have hx := str_one P m (by rw [HPl.out]; exact hmb)
                have hes : ((str P).extract m (m + 1)).size = 1 := by rw [hx, str_size]; rfl
                have hcat : ¬ (9223372036854775807 < T.size + j + 1) := by omega
                have HX := Lib.hid (show y ++ (str P).extract m (m + 1) = str (rep b (j + 1) T.data.toList) by rw [hx, HY.out, str_app, rep_snoc, HA.out, hm])
                have HXs := Lib.hid (show (y ++ (str P).extract m (m + 1)).size = T.size + (j + 1) by rw [ByteArray.size_append, hes]; omega)
                have Hwj := Lib.hid (show IntKind.i64.wrap ((j : Int) + 1) = ((j + 1 : Nat) : Int) by rw [IntWalk.i64_in _ (by omega)]; omega)
                clear hm hx
                go_upto_region 17 with fail
                go_region_held3 (fun _ => True) (trivial) (fail)
                go_upto_region 16 with fail
                clear hwm
                have hwj := Hwj.out
                go_wp2_with fail
                go_roundw
                case rel => exact ⟨j + 1, _, by omega, by go_num, rfl, HX, HXs.out, hb.drew⟩
                case measure => simp [intOf]; omega
              · have hj1 : ¬ (j : Int) < (k : Int) + 4 := by omega
                have hjk : j = k + 4 := by omega
                rw [hjk] at HY
                clear hjk
                go_wp2_with fail
                go_ret3
                exact ⟨by rw [HF.out, HY.out]; rfl, hb⟩
          · have HF := Lib.hid (show pieceM M T.data.toList Z.data.toList = none by
              by_cases h5 : 1 ≤ b1 ∧ b1 ≤ 4096 ∧ b1 ≤ (T.size : Int)
              · rw [if_pos h5] at hP
                exact pieceM_big hP (by rw [rep_len]; omega)
              · rw [if_neg h5] at hP
                exact pieceM_none hP)
            clear ht hzr hP h1 he hTl hrs ht2
            by_cases g1 : b1 < 1
            · clear hf
              go_enter Try.func17, Try.ntmps17
              go_wp2_with fail
              refine K.out.mono ?_
              rintro e w1 ⟨rfl, d1⟩
              have K2 := Lib.hid (K2' w1)
              clear K
              go_wp2_with fail
              refine K2.out.mono ?_
              rintro e w2 ⟨rfl, d2⟩
              clear K2
              go_wp2_with fail
              go_ret3
              exact ⟨by rw [HF.out]; rfl, gtrans d1 d2⟩
            by_cases g2 : 4096 < b1
            · clear hf
              go_enter Try.func17, Try.ntmps17
              go_wp2_with fail
              refine K.out.mono ?_
              rintro e w1 ⟨rfl, d1⟩
              have K2 := Lib.hid (K2' w1)
              clear K
              go_wp2_with fail
              refine K2.out.mono ?_
              rintro e w2 ⟨rfl, d2⟩
              clear K2
              go_wp2_with fail
              go_ret3
              exact ⟨by rw [HF.out]; rfl, gtrans d1 d2⟩
            by_cases g3 : (T.size : Int) < b1
            · clear hf
              go_enter Try.func17, Try.ntmps17
              go_wp2_with fail
              refine K.out.mono ?_
              rintro e w1 ⟨rfl, d1⟩
              have K2 := Lib.hid (K2' w1)
              clear K
              go_wp2_with fail
              refine K2.out.mono ?_
              rintro e w2 ⟨rfl, d2⟩
              clear K2
              go_wp2_with fail
              go_ret3
              exact ⟨by rw [HF.out]; rfl, gtrans d1 d2⟩
            · have g4 : (M : Int) - (T.size : Int) - 4 < (k : Int) := by omega
              clear hf
              go_enter Try.func17, Try.ntmps17
              go_wp2_with fail
              refine K.out.mono ?_
              rintro e w1 ⟨rfl, d1⟩
              have K2 := Lib.hid (K2' w1)
              clear K
              go_wp2_with fail
              refine K2.out.mono ?_
              rintro e w2 ⟨rfl, d2⟩
              clear K2
              go_wp2_with fail
              go_ret3
              exact ⟨by rw [HF.out]; rfl, gtrans d1 d2⟩
end Go.Proofs.Ytnhchmbbhkgccaa
