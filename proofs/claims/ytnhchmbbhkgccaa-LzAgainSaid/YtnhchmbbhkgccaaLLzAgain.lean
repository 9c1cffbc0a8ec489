/- The walk of the statement LzAgain of layer 32. -/
import Derived.Test.YtnhchmbbhkgccaaLzAwake
namespace Go.Proofs.Ytnhchmbbhkgccaa
open Go.RowKit Vm Lz
set_option linter.unusedVariables false
set_option linter.unusedSimpArgs false

theorem mask32 (x M : Int) (h0 : 0 ≤ M) (hM : M < 9223372036854775808) : ∃ y : Int, bits .and .i64 x M = y ∧ 0 ≤ y ∧ y ≤ M := by
  refine ⟨_, rfl, ?_⟩
  have h2 : ((BitVec.ofInt 64 M).toNat : Int) = M := by
    rw [BitVec.toNat_ofInt]; omega
  have h3 : (BitVec.ofInt 64 x &&& BitVec.ofInt 64 M).toNat ≤ (BitVec.ofInt 64 M).toNat := by
    rw [BitVec.toNat_and]; exact Nat.and_le_right
  have e : bits .and .i64 x M = IntKind.i64.wrap ((BitVec.ofInt 64 x &&& BitVec.ofInt 64 M).toNat : Int) := rfl
  rw [e, IntKind.wrap_i64]
  omega
set_option maxRecDepth 100000 in
set_option maxHeartbeats 8000000 in
theorem lzAgain_law (s : ByteArray) (n : Int) (w : World) (hs : s.size ≤ 140737488351232) (hn : (Lit.int .i64 n).wf = true) :
    Calls Try.prog 6 #[.string s, .int .i64 n] w fun e w' => e = .returned (.bool true) ∧ Below w.heap.size w w' := by
  obtain ⟨y, hy, hy0, hy1⟩ := mask32 n 31 (by omega) (by omega)
  obtain ⟨q, rfl⟩ : ∃ q : Nat, y = (q : Int) := ⟨y.toNat, by omega⟩
  have hb := hy
  have hq31 : q ≤ 31 := by omega
  clear hy hy0 hy1
  by_cases h1 : s.size ≤ 1000
  · have h1i : (s.size : Int) ≤ 1000 := by omega
    obtain ⟨S, hS⟩ : ∃ S, s = S := ⟨_, rfl⟩
    have hZ : S.size ≤ 1000 := by rw [← hS]; exact h1
    obtain ⟨L, hL⟩ : ∃ L, S.data.toList = L := ⟨_, rfl⟩
    have hLs : L.length = S.size := by rw [← hL, toList_length]
    have HL := Lib.hid hL
    have HLs := Lib.hid hLs
    clear hL hLs
    go_enter Try.func6, Try.ntmps6
    go_upto_region 6 with fail
    try rw [hS]
    have hq1 : (1 : Int) + (q : Int) = ((q + 1 : Nat) : Int) := by omega
    rw [hq1]
    clear hq1 hb
    go_loopw [5, 6] (fun A J wr => ∃ (j : Nat) (y : ByteArray), j ≤ q + 1 ∧ J = .int .i64 j ∧ A = .string y ∧ Hid (y = str (many j L)) ∧ y.size = j * S.size ∧ Below w.heap.size w wr) (fun _ J _ => q + 1 - (intOf J).toNat)
    case atStart => exact ⟨0, ByteArray.empty, by omega, rfl, rfl, Lib.hid rfl, by simp, Below.refl _ _⟩
    case round =>
      obtain ⟨j, y, hj, rfl, rfl, HY, hys, hb⟩ := hrel
      have hyl : y.size ≤ 32000 := by
        rw [hys]
        exact Nat.le_trans (Nat.mul_le_mul (show j ≤ 32 by omega) hZ) (by omega)
      by_cases hlt : j < q + 1
      · have hj1 : (j : Int) < ((q + 1 : Nat) : Int) := by omega
        have hj2 : (j : Int) < (q : Int) + 1 := by omega
        have hcat : ¬ (9223372036854775807 < y.size + S.size) := by omega
        have HY2 := Lib.hid (show y ++ S = str (many (j + 1) L) by rw [many_succ, ← str_app, ← HY.out, ← HL.out, str_data])
        have hys2 : (y ++ S).size = (j + 1) * S.size := by rw [ByteArray.size_append, hys, Nat.add_mul]; omega
        have HS2 := Lib.hid hys2
        clear hys hys2
        go_wp2_with fail
        go_roundw
        case rel => exact ⟨j + 1, y ++ S, by omega, by go_num, rfl, HY2, HS2.out, hb⟩
        case measure => simp [intOf]; omega
      · have hj1 : ¬ (j : Int) < ((q + 1 : Nat) : Int) := by omega
        have hj2 : ¬ (j : Int) < (q : Int) + 1 := by omega
        have hjq : j = q + 1 := by omega
        rw [hjq] at HY
        have hyd : y.data.toList = many (q + 1) L := by rw [HY.out, str_toList]
        have K2 := Lib.hid (pack_walk y wr (by omega))
        have HYd := Lib.hid hyd
        clear hys hjq hyd
        go_wp2_with fail
        refine K2.out.mono ?_
        rintro e w2 ⟨t, ht, rfl, b2⟩
        obtain ⟨hu, hl⟩ := pack_U ht (by rw [toList_length]; omega)
        rw [toList_length] at hl
        have ht2 := ht
        rw [HYd.out] at ht2
        have hl2 := pack_many ht2 (by rw [HLs.out]; exact hZ) (by rw [← HYd.out, toList_length]; omega)
        rw [HLs.out] at hl2
        have hts := str_size t
        have hti : ((str t).size : Int) ≤ (S.size : Int) + 20 := by omega
        have K3 := Lib.hid (unpack_walk (str t) 1048576 w2 (by omega) (by rw [hts]; unfold maxLen; omega))
        rw [str_toList, un_of_U hu (by rw [toList_length]; omega), unV_some, str_data] at K3
        have hb2 := hb.trans (b2.mono hb.size)
        clear hu hl ht ht2 hl2 hts K2
        go_wp2_with fail
        refine K3.out.mono ?_
        rintro e w3 ⟨rfl, b3⟩
        have hb3 := hb2.trans (b3.mono hb2.size)
        clear K3
        go_wp2_with fail
        refine (awake32_walk _).mono ?_
        rintro e w9 ⟨rfl, b9⟩
        go_wp2_with fail
        go_ret
        exact ⟨rfl, hb3.trans (b9.mono hb3.size)⟩
  · have h1i : ¬ (s.size : Int) ≤ 1000 := by omega
    have h1j : (1000 : Int) ≤ (s.size : Int) := by omega
    obtain ⟨S, hS⟩ : ∃ S, s.extract 0 1000 = S := ⟨_, rfl⟩
    have hZ : S.size ≤ 1000 := by rw [← hS]; exact (by rw [extract_size s 1000 (by omega)]; omega)
    obtain ⟨L, hL⟩ : ∃ L, S.data.toList = L := ⟨_, rfl⟩
    have hLs : L.length = S.size := by rw [← hL, toList_length]
    have HL := Lib.hid hL
    have HLs := Lib.hid hLs
    clear hL hLs
    go_enter Try.func6, Try.ntmps6
    go_upto_region 6 with fail
    try rw [hS]
    have hq1 : (1 : Int) + (q : Int) = ((q + 1 : Nat) : Int) := by omega
    rw [hq1]
    clear hq1 hb
    go_loopw [5, 6] (fun A J wr => ∃ (j : Nat) (y : ByteArray), j ≤ q + 1 ∧ J = .int .i64 j ∧ A = .string y ∧ Hid (y = str (many j L)) ∧ y.size = j * S.size ∧ Below w.heap.size w wr) (fun _ J _ => q + 1 - (intOf J).toNat)
    case atStart => exact ⟨0, ByteArray.empty, by omega, rfl, rfl, Lib.hid rfl, by simp, Below.refl _ _⟩
    case round =>
      obtain ⟨j, y, hj, rfl, rfl, HY, hys, hb⟩ := hrel
      have hyl : y.size ≤ 32000 := by
        rw [hys]
        exact Nat.le_trans (Nat.mul_le_mul (show j ≤ 32 by omega) hZ) (by omega)
      by_cases hlt : j < q + 1
      · have hj1 : (j : Int) < ((q + 1 : Nat) : Int) := by omega
        have hj2 : (j : Int) < (q : Int) + 1 := by omega
        have hcat : ¬ (9223372036854775807 < y.size + S.size) := by omega
        have HY2 := Lib.hid (show y ++ S = str (many (j + 1) L) by rw [many_succ, ← str_app, ← HY.out, ← HL.out, str_data])
        have hys2 : (y ++ S).size = (j + 1) * S.size := by rw [ByteArray.size_append, hys, Nat.add_mul]; omega
        have HS2 := Lib.hid hys2
        clear hys hys2
        go_wp2_with fail
        go_roundw
        case rel => exact ⟨j + 1, y ++ S, by omega, by go_num, rfl, HY2, HS2.out, hb⟩
        case measure => simp [intOf]; omega
      · have hj1 : ¬ (j : Int) < ((q + 1 : Nat) : Int) := by omega
        have hj2 : ¬ (j : Int) < (q : Int) + 1 := by omega
        have hjq : j = q + 1 := by omega
        rw [hjq] at HY
        have hyd : y.data.toList = many (q + 1) L := by rw [HY.out, str_toList]
        have K2 := Lib.hid (pack_walk y wr (by omega))
        have HYd := Lib.hid hyd
        clear hys hjq hyd
        go_wp2_with fail
        refine K2.out.mono ?_
        rintro e w2 ⟨t, ht, rfl, b2⟩
        obtain ⟨hu, hl⟩ := pack_U ht (by rw [toList_length]; omega)
        rw [toList_length] at hl
        have ht2 := ht
        rw [HYd.out] at ht2
        have hl2 := pack_many ht2 (by rw [HLs.out]; exact hZ) (by rw [← HYd.out, toList_length]; omega)
        rw [HLs.out] at hl2
        have hts := str_size t
        have hti : ((str t).size : Int) ≤ (S.size : Int) + 20 := by omega
        have K3 := Lib.hid (unpack_walk (str t) 1048576 w2 (by omega) (by rw [hts]; unfold maxLen; omega))
        rw [str_toList, un_of_U hu (by rw [toList_length]; omega), unV_some, str_data] at K3
        have hb2 := hb.trans (b2.mono hb.size)
        clear hu hl ht ht2 hl2 hts K2
        go_wp2_with fail
        refine K3.out.mono ?_
        rintro e w3 ⟨rfl, b3⟩
        have hb3 := hb2.trans (b3.mono hb2.size)
        clear K3
        go_wp2_with fail
        refine (awake32_walk _).mono ?_
        rintro e w9 ⟨rfl, b9⟩
        go_wp2_with fail
        go_ret
        exact ⟨rfl, hb3.trans (b9.mono hb3.size)⟩
end Go.Proofs.Ytnhchmbbhkgccaa
