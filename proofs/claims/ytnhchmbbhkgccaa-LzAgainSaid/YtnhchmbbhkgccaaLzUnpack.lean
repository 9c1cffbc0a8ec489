/- The walk of lz.Unpack. -/
import Derived.Test.YtnhchmbbhkgccaaLzTake
namespace Go.Proofs.Ytnhchmbbhkgccaa
open Go.RowKit Vm Lz
set_option linter.unusedVariables false
set_option linter.unusedSimpArgs false

/-- What unpacking answers. -/
def unV : Option (List UInt8) → Value
  | some x => .tuple #[.string (str x), .int .i64 0]
  | none => .tuple #[.string (str []), .int .i64 2]
def strLen : Value → Nat
  | .string s => s.size
  | _ => 0
/-- One step of the program's, by what it reads. -/
theorem pieceL_none {t s : List UInt8} (h : takeL s = none) : pieceL t s = none := by unfold pieceL; rw [h]
theorem pieceL_low {t s r : List UInt8} {n : Int} (h : takeL s = some (n, r)) (hn : n < 1) : pieceL t s = none := by unfold pieceL; rw [h]; simp only; rw [if_pos hn]
theorem pieceL_even {t s r : List UInt8} {n : Int} {k : Nat} (h : takeL s = some (n, r)) (hn : ¬ n < 1) (he : n % 2 = 0) (hk : n / 2 = (k : Int)) : pieceL t s = if k ≤ r.length then some (t ++ r.take k, r.drop k) else none := by
  unfold pieceL; rw [h]; simp only; rw [if_neg hn, if_pos he, show (n / 2).toNat = k by omega]
theorem pieceL_odd_none {t s r : List UInt8} {n : Int} (h : takeL s = some (n, r)) (hn : ¬ n < 1) (he : ¬ n % 2 = 0) (h2 : takeL r = none) : pieceL t s = none := by
  unfold pieceL; rw [h]; simp only; rw [if_neg hn, if_neg he, h2]
theorem pieceL_odd {t s r r' : List UInt8} {n b : Int} {k : Nat} (h : takeL s = some (n, r)) (hn : ¬ n < 1) (he : ¬ n % 2 = 0) (hk : n / 2 = (k : Int)) (h2 : takeL r = some (b, r')) : pieceL t s = if 1 ≤ b ∧ b ≤ 4096 ∧ b ≤ (t.length : Int) then some (rep b.toNat (k + 4) t, r') else none := by
  unfold pieceL; rw [h]; simp only; rw [if_neg hn, if_neg he, h2, show (n / 2).toNat = k by omega]
theorem ze_false {z : ByteArray} (h : ¬ z.data.toList = []) : z.toList.isEmpty = false := by
  rw [ByteArray.toList_eq]
  simpa using h
theorem conv_any {P : Program} {w : World} {base n : Nat} {a : Option Addr} {c : Nat} {l : List UInt8} (src dst e : TypeId) (hs : P.underlying src = some (.slice e)) (he : P.underlying e = some (.int .u8)) (hd : P.underlying dst = some .string)
    (h : w.ownsRow base e 1 (.slice a n c) n (byteVals l)) (hl : l.length = n) : (convert src dst (.slice a n c)).run P w = .ok (.string (str l)) w := by
  subst hl
  by_cases h0 : 0 < l.length
  · exact conv_own src dst e hs he hd h h0
  · have : l = [] := List.eq_nil_of_length_eq_zero (by omega)
    subst this
    cases a with
    | none => exact run_convert_bytes_nil w src e hs he _ _ _ hd
    | some x => exact run_convert_bytes_back w src dst e x c [] hs he hd (fun j hj => by simp at hj)
set_option maxRecDepth 100000 in
set_option maxHeartbeats 8000000 in
theorem unpack_walk (s : ByteArray) (M : Nat) (w : World) (hM : M ≤ 1048576) (hs : s.size ≤ maxLen) :
    Calls Try.prog 9 #[.string s, .int .i64 M] w fun e w' => e = .returned (unV (un M [] s.data.toList)) ∧ Below w.heap.size w w' := by
  have hM1 : ¬ (M : Int) < 0 := by omega
  have hM2 : (M : Int) ≤ 1048576 := by omega
  have hM3 : decide ((1048576 : Int) < (M : Int)) = false := by simp; omega
  go_enter Try.func9, Try.ntmps9
  go_wp2_with fail
  go_loopw [0, 6] (fun S O wr => ∃ (z : ByteArray) (o : List UInt8) (n : Nat) (a : Option Addr) (c : Nat), S = .string z ∧ O = .slice a n c ∧ Hid (o.length = n) ∧ n ≤ M ∧ z.size ≤ maxLen ∧ Hid (un M [] s.data.toList = un M o z.data.toList) ∧ wr.ownsRow w.heap.size 5 1 (.slice a n c) n (byteVals o) ∧ Below w.heap.size w wr) (fun S _ _ => strLen S)
  case atStart => exact ⟨s, [], 0, none, 0, rfl, rfl, Lib.hid rfl, by omega, hs, Lib.hid rfl, World.ownsRow_nil _ _ _ _, Below.refl _ _⟩
  case round =>
    obtain ⟨z, o, n, a, c, rfl, rfl, HN, hnM, hz, HU, own, hb⟩ := hrel
    have hbz := hb.size
    by_cases hz0 : z.data.toList = []
    · have hz1 : z = ByteArray.empty := by rw [← str_data z, hz0]; rfl
      subst hz1
      have hun : un M [] s.data.toList = some o := by rw [HU.out, hz0, un_nil]
      have HR := Lib.hid hun
      clear hun hz0 HU
      have hconv := conv_any 32 9 5 Try.underlying32 Try.underlying5 Try.underlying9 own HN.out
      go_wp2_with fail
      go_ret2
      exact ⟨by rw [HR.out]; rfl, hb⟩
    · have hze : z.toList.isEmpty = false := ze_false hz0
      have hzn : ¬ z = ByteArray.empty := fun h => hz0 (by rw [h]; rfl)
      have K := Lib.hid (take_walk z wr hz)
      have HZ := Lib.hid hz0
      cases ht : takeL z.data.toList with
      | none =>
        rw [Take.a_none ht] at K
        have HF := Lib.hid (show un M [] s.data.toList = none by rw [HU.out, un_none HZ.out (pieceL_none ht)])
        clear ht hz0 HU own
        go_wp2_with fail
        refine K.out.mono ?_
        rintro e w1 ⟨rfl, d1⟩
        have hb1 := Lib.hid (hb.trans ((d1.below wr.heap.size).mono hbz))
        clear d1 K
        go_wp2_with fail
        go_ret2
        exact ⟨by rw [HF.out]; rfl, hb1.out⟩
      | some p =>
        obtain ⟨n1, r⟩ := p
        rw [Take.a_some ht] at K
        obtain ⟨hi1, hzr⟩ := takeL_some ht
        have hrl : r.length ≤ z.size := by
          have := congrArg List.length hzr
          rw [List.length_append, toList_length] at this; omega
        have hzr2 : (str r).size ≤ maxLen := by rw [str_size]; omega
        by_cases h1 : n1 < 1
        · have HF := Lib.hid (show un M [] s.data.toList = none by rw [HU.out, un_none HZ.out (pieceL_low ht h1)])
          clear ht hz0 HU own hzr
          go_wp2_with fail
          refine K.out.mono ?_
          rintro e w1 ⟨rfl, d1⟩
          have hb1 := Lib.hid (hb.trans ((d1.below wr.heap.size).mono hbz))
          clear d1 K
          go_wp2_with fail
          go_ret2
          exact ⟨by rw [HF.out]; rfl, hb1.out⟩
        · obtain ⟨k, hk⟩ : ∃ k : Nat, n1 / 2 = (k : Int) := ⟨(n1 / 2).toNat, by omega⟩
          have hkb : (k : Int) ≤ 4611686018427387904 := by unfold I64 at hi1; omega
          have h1d : decide (n1 < 1) = false := by simp; omega
          have h10 : 0 ≤ n1 := by omega
          have hrs : r.length < z.size := by
            have := congrArg List.length hzr
            have h2 := putL_pos n1
            rw [List.length_append, toList_length] at this; omega
          by_cases he : n1 % 2 = 0
          · have hP := pieceL_even (t := o) ht h1 he hk
            have ht1 : n1.tmod 2 = 0 := by rw [Int.tmod_eq_emod_of_nonneg h10]; exact he
            by_cases hf : k ≤ r.length ∧ n + k ≤ M
            · rw [if_pos hf.1] at hP
              have hl : (o ++ r.take k).length ≤ M := by rw [List.length_append, List.length_take, HN.out]; omega
              obtain ⟨o', ho⟩ : ∃ x, o ++ r.take k = x := ⟨_, rfl⟩
              rw [ho] at hl hP
              have HO := Lib.hid ho
              have HL := Lib.hid hl
              have HF := Lib.hid (un_step hP hl)
              have HS := Lib.hid (show (str (r.drop k)).size ≤ maxLen ∧ (str (r.drop k)).size < z.size by rw [str_size, List.length_drop]; omega)
              have HR := Lib.hid hzr2
              have HK := Lib.hid hf
              unfold I64 at hi1
              clear ht hz0 hzr hP hl h1 hf hzr2 he ho
              go_wp2_with fail
              refine K.out.mono ?_
              rintro e w1 ⟨rfl, d1⟩
              have own1 := own_keep own (d1.below wr.heap.size)
              have hbz1 : w.heap.size ≤ w1.heap.size := by have := (d1.below wr.heap.size).size; omega
              clear K
              have KP := Lib.hid (tplain_ok o a c (str r) k M n w.heap.size w1 HN.out hM HR.out (by rw [str_size]; exact HK.out.1) HK.out.2 own1 hbz1)
              rw [str_toList] at KP
              rw [HO.out] at KP
              go_wp2_with fail
              refine KP.out.mono ?_
              rintro e w2 ⟨a2, c2, rfl, o2, b2⟩
              have hb2 := hb.trans ((d1.below w.heap.size).trans b2)
              clear KP d1 b2 own1
              go_wp2_with fail
              go_roundw
              case rel => exact ⟨str (r.drop k), o', o'.length, a2, c2, rfl, rfl, Lib.hid rfl, HL.out, HS.out.1, Lib.hid (by rw [HU.out, str_toList]; exact HF.out), o2, hb2⟩
              case measure => show (str (r.drop k)).size < z.size; exact HS.out.2
            · have HF := Lib.hid (show un M [] s.data.toList = none by
                rw [HU.out]
                by_cases h5 : k ≤ r.length
                · rw [if_pos h5] at hP
                  exact un_big hP (by rw [List.length_append, List.length_take, HN.out]; omega)
                · rw [if_neg h5] at hP
                  exact un_none HZ.out hP)
              have HK := Lib.hid hf
              unfold I64 at hi1
              clear ht hz0 hzr hP h1 hf HU he
              go_wp2_with fail
              refine K.out.mono ?_
              rintro e w1 ⟨rfl, d1⟩
              have own1 := own_keep own (d1.below wr.heap.size)
              have hbz1 : w.heap.size ≤ w1.heap.size := by have := (d1.below wr.heap.size).size; omega
              clear K
              go_wp2_with fail
              refine (tplain_no a c (str r) k M n w.heap.size w1 hM hnM hkb (by rw [str_size]; exact HK.out)).mono ?_
              rintro e w2 ⟨rfl, b2⟩
              have hb2 := Lib.hid (hb.trans ((d1.below w.heap.size).trans b2))
              clear d1 b2 own1
              go_wp2_with fail
              go_ret2
              exact ⟨by rw [HF.out]; rfl, hb2.out⟩
          · have ht1 : n1.tmod 2 = 1 := by rw [Int.tmod_eq_emod_of_nonneg h10]; omega
            cases ht2 : takeL r with
            | none =>
              have HF := Lib.hid (show un M [] s.data.toList = none by rw [HU.out, un_none HZ.out (pieceL_odd_none ht h1 he ht2)])
              have HK := Lib.hid ht2
              unfold I64 at hi1
              clear ht hz0 hzr h1 HU he ht2
              go_wp2_with fail
              refine K.out.mono ?_
              rintro e w1 ⟨rfl, d1⟩
              have own1 := own_keep own (d1.below wr.heap.size)
              have hbz1 : w.heap.size ≤ w1.heap.size := by have := (d1.below wr.heap.size).size; omega
              clear K
              go_wp2_with fail
              refine (tagain_none a c (str r) k M n w.heap.size w1 hM hzr2 (by rw [str_toList]; exact HK.out)).mono ?_
              rintro e w2 ⟨rfl, b2⟩
              have hb2 := Lib.hid (hb.trans ((d1.below w.heap.size).trans b2))
              clear d1 b2 own1
              go_wp2_with fail
              go_ret2
              exact ⟨by rw [HF.out]; rfl, hb2.out⟩
            | some p =>
              obtain ⟨b1, r2⟩ := p
              have hP := pieceL_odd (t := o) ht h1 he hk ht2
              have hrr := (takeL_some ht2).2
              have hrs2 : r2.length ≤ r.length := by rw [hrr, List.length_append]; omega
              have HK := Lib.hid ht2
              unfold I64 at hi1
              by_cases hf : 1 ≤ b1 ∧ b1 ≤ 4096 ∧ b1 ≤ (n : Int) ∧ n + k + 4 ≤ M
              · rw [if_pos (by rw [HN.out]; omega)] at hP
                obtain ⟨b, rfl⟩ : ∃ b : Nat, b1 = (b : Int) := ⟨b1.toNat, by omega⟩
                rw [show ((b : Nat) : Int).toNat = b from rfl] at hP
                have hl : (rep b (k + 4) o).length ≤ M := by rw [rep_len, HN.out]; omega
                obtain ⟨o', ho⟩ : ∃ x, rep b (k + 4) o = x := ⟨_, rfl⟩
                rw [ho] at hl hP
                have HO := Lib.hid ho
                have HL := Lib.hid hl
                have HF := Lib.hid (un_step hP hl)
                have HS := Lib.hid (show (str r2).size ≤ maxLen ∧ (str r2).size < z.size by rw [str_size]; omega)
                have HR := Lib.hid hzr2
                have HC := Lib.hid (show 1 ≤ b ∧ b ≤ 4096 ∧ b ≤ n ∧ n + k + 4 ≤ M by omega)
                clear ht hz0 hzr hP hl h1 hf hzr2 he ht2 hrr ho
                go_wp2_with fail
                refine K.out.mono ?_
                rintro e w1 ⟨rfl, d1⟩
                have own1 := own_keep own (d1.below wr.heap.size)
                have hbz1 : w.heap.size ≤ w1.heap.size := by have := (d1.below wr.heap.size).size; omega
                clear K
                have KP := Lib.hid (tagain_ok o a c (str r) k M n b w.heap.size r2 w1 HN.out hM HR.out (by rw [str_toList]; exact HK.out) HC.out.1 HC.out.2.1 HC.out.2.2.1 HC.out.2.2.2 own1 hbz1)
                rw [HO.out] at KP
                go_wp2_with fail
                refine KP.out.mono ?_
                rintro e w2 ⟨a2, c2, rfl, o2, b2⟩
                have hb2 := hb.trans ((d1.below w.heap.size).trans b2)
                clear KP d1 b2 own1
                go_wp2_with fail
                go_roundw
                case rel => exact ⟨str (r2), o', o'.length, a2, c2, rfl, rfl, Lib.hid rfl, HL.out, HS.out.1, Lib.hid (by rw [HU.out, str_toList]; exact HF.out), o2, hb2⟩
                case measure => show (str (r2)).size < z.size; exact HS.out.2
              · have HF := Lib.hid (show un M [] s.data.toList = none by
                  rw [HU.out]
                  by_cases h5 : 1 ≤ b1 ∧ b1 ≤ 4096 ∧ b1 ≤ (o.length : Int)
                  · rw [if_pos h5] at hP
                    rw [HN.out] at h5
                    exact un_big hP (by rw [rep_len, HN.out]; omega)
                  · rw [if_neg h5] at hP
                    exact un_none HZ.out hP)
                have HC := Lib.hid (show b1 < 1 ∨ 4096 < b1 ∨ (n : Int) < b1 ∨ (M : Int) - (n : Int) - 4 < (k : Int) by omega)
                clear ht hz0 hzr hP h1 hf HU he ht2 hrr
                go_wp2_with fail
                refine K.out.mono ?_
                rintro e w1 ⟨rfl, d1⟩
                have own1 := own_keep own (d1.below wr.heap.size)
                have hbz1 : w.heap.size ≤ w1.heap.size := by have := (d1.below wr.heap.size).size; omega
                clear K
                go_wp2_with fail
                refine (tagain_no a c (str r) k M n w.heap.size b1 r2 w1 hM hnM hkb hzr2 (by rw [str_toList]; exact HK.out) HC.out).mono ?_
                rintro e w2 ⟨rfl, b2⟩
                have hb2 := Lib.hid (hb.trans ((d1.below w.heap.size).trans b2))
                clear d1 b2 own1
                go_wp2_with fail
                go_ret2
                exact ⟨by rw [HF.out]; rfl, hb2.out⟩
end Go.Proofs.Ytnhchmbbhkgccaa
