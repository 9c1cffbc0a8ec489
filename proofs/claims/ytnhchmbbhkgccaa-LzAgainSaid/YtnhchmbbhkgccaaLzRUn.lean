/- The walk of headgateref32.Unpack; both where there may not be so much room. -/
import Derived.Test.YtnhchmbbhkgccaaLzRef
namespace Go.Proofs.Ytnhchmbbhkgccaa
open Go.RowKit Vm Lz
set_option linter.unusedVariables false
set_option linter.unusedSimpArgs false

namespace Lz
theorem un_pieceM_none {M : Nat} {t s : List UInt8} (hs : s ≠ []) (h : pieceM M t s = none) : un M t s = none := by
  unfold pieceM at h
  cases hp : pieceL t s with
  | none => exact un_none hs hp
  | some p =>
    obtain ⟨t', s'⟩ := p
    rw [hp] at h
    simp only at h
    by_cases hl : t'.length ≤ M
    · rw [if_pos hl] at h; cases h
    · exact un_big hp (by omega)
theorem un_pieceM_some {M : Nat} {t s t' s' : List UInt8} (h : pieceM M t s = some (t', s')) : un M t s = un M t' s' ∧ t'.length ≤ M ∧ s'.length < s.length := by
  unfold pieceM at h
  cases hp : pieceL t s with
  | none => rw [hp] at h; cases h
  | some p =>
    obtain ⟨t1, s1⟩ := p
    rw [hp] at h
    simp only at h
    by_cases hl : t1.length ≤ M
    · rw [if_pos hl] at h
      injection h with h
      injection h with h1 h2
      subst h1 h2
      exact ⟨un_step hp hl, hl, (piece_grow hp).1⟩
    · rw [if_neg hl] at h; cases h
end Lz
theorem unV_some (x : List UInt8) : unV (some x) = .tuple #[.string (str x), .int .i64 0] := rfl
set_option maxRecDepth 100000 in
set_option maxHeartbeats 8000000 in
theorem runpack_walk (s : ByteArray) (M : Nat) (w : World) (hM : M ≤ 1048576) (hs : s.size ≤ maxLen) :
    Calls Try.prog 10 #[.string s, .int .i64 M] w fun e w' => e = .returned (unV (un M [] s.data.toList)) ∧ Below w.heap.size w w' := by
  have hM1 : ¬ (M : Int) < 0 := by omega
  have hM2 : (M : Int) ≤ 1048576 := by omega
  have hM3 : decide ((1048576 : Int) < (M : Int)) = false := by simp; omega
  go_enter Try.func10, Try.ntmps10
  go_wp2_with fail
  go_loopw [0, 6] (fun S O wr => ∃ (z t : ByteArray), S = .string z ∧ O = .string t ∧ t.size ≤ M ∧ z.size ≤ maxLen ∧ Hid (un M [] s.data.toList = un M t.data.toList z.data.toList) ∧ Below w.heap.size w wr) (fun S _ _ => strLen S)
  case atStart => exact ⟨s, ByteArray.empty, rfl, rfl, Nat.zero_le _, hs, Lib.hid rfl, Below.refl _ _⟩
  case round =>
    obtain ⟨z, t, rfl, rfl, htM, hz, HU, hb⟩ := hrel
    have hbz := hb.size
    by_cases hz0 : z.data.toList = []
    · have hzs : ¬ (0 : Int) < (z.size : Int) := by
        have := toList_length z
        rw [hz0] at this; simp only [List.length_nil] at this; omega
      have hzs2 : ¬ 0 < z.size := by omega
      have HR := Lib.hid (show un M [] s.data.toList = some t.data.toList by rw [HU.out, hz0, un_nil])
      clear hz0 HU
      go_wp2_with fail
      go_ret2
      exact ⟨by rw [HR.out, unV_some, str_data]; rfl, hb⟩
    · have hzs2 : 0 < z.size := by
        rw [← toList_length z]; exact List.length_pos_iff.2 hz0
      have hzs : (0 : Int) < (z.size : Int) := by omega
      have K := Lib.hid (rpiece_walk t z M wr hM htM hz)
      cases hp : pieceM M t.data.toList z.data.toList with
      | none =>
        have HF := Lib.hid (show un M [] s.data.toList = none by rw [HU.out, un_pieceM_none hz0 hp])
        rw [hp] at K
        unfold pcV at K
        clear hp hz0 HU
        go_wp2_with fail
        refine K.out.mono ?_
        rintro e w1 ⟨rfl, d1⟩
        clear K
        go_wp2_with fail
        go_ret2
        exact ⟨by rw [HF.out]; rfl, hb.trans (d1.mono hbz)⟩
      | some q =>
        obtain ⟨t', s'⟩ := q
        obtain ⟨h1, h2, h3⟩ := un_pieceM_some hp
        rw [toList_length] at h3
        have HF := Lib.hid h1
        have HL := Lib.hid h2
        have HS := Lib.hid h3
        rw [hp] at K
        unfold pcV at K
        clear hp hz0 h1 h2 h3
        go_wp2_with fail
        refine K.out.mono ?_
        rintro e w1 ⟨rfl, d1⟩
        have hb2 := hb.trans (d1.mono hbz)
        clear K d1
        go_wp2_with fail
        go_roundw
        case rel => exact ⟨str s', str t', rfl, rfl, by rw [str_size]; exact HL.out, by rw [str_size]; have := HS.out; omega, Lib.hid (by rw [HU.out, HF.out, str_toList, str_toList]), hb2⟩
        case measure => show (str s').size < z.size; rw [str_size]; exact HS.out
set_option maxRecDepth 100000 in
theorem unpack_bad (s : ByteArray) (M : Int) (w : World) (hM : M < 0 ∨ 1048576 < M) :
    Calls Try.prog 9 #[.string s, .int .i64 M] w fun e w' => e = .returned (.tuple #[.string (str []), .int .i64 1]) ∧ Below w.heap.size w w' := by
  by_cases h : M < 0
  · clear hM
    go_enter Try.func9, Try.ntmps9
    go_wp2_with fail
    go_ret2
    exact ⟨rfl, Below.refl _ _⟩
  · have h2 : 1048576 < M := by omega
    clear hM
    go_enter Try.func9, Try.ntmps9
    go_wp2_with fail
    go_ret2
    exact ⟨rfl, Below.refl _ _⟩
set_option maxRecDepth 100000 in
theorem runpack_bad (s : ByteArray) (M : Int) (w : World) (hM : M < 0 ∨ 1048576 < M) :
    Calls Try.prog 10 #[.string s, .int .i64 M] w fun e w' => e = .returned (.tuple #[.string (str []), .int .i64 1]) ∧ Below w.heap.size w w' := by
  by_cases h : M < 0
  · clear hM
    go_enter Try.func10, Try.ntmps10
    go_wp2_with fail
    go_ret2
    exact ⟨rfl, Below.refl _ _⟩
  · have h2 : 1048576 < M := by omega
    clear hM
    go_enter Try.func10, Try.ntmps10
    go_wp2_with fail
    go_ret2
    exact ⟨rfl, Below.refl _ _⟩
end Go.Proofs.Ytnhchmbbhkgccaa
