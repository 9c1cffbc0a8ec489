/- The walk of headgateref01.Take: the same number, or none. -/
import Derived.Test.YtnhchmbbhkgccaaRefPut
import Derived.Deep.QuietTactic
import Derived.Deep.RegionWith
import Derived.Deep.DeepCutAuto
import Derived.BigQuiet
import Derived.IntWalk
namespace Go.Proofs.Ytnhchmbbhkgccaa
open Go.RowKit Vm
set_option linter.unusedVariables false

namespace RefTake
theorem step (U c : Nat) (hU : U < 18446744073709551616) (hc : c < 256) :
    IntKind.u64.wrap (IntKind.u64.wrap ((U : Int) * 128) + (IntKind.u64.wrap (c : Int)).tmod 128) = (((U * 128 + c % 128) % 18446744073709551616 : Nat) : Int) := by
  simp only [IntKind.wrap_u64]
  rw [Int.tmod_eq_emod_of_nonneg (by omega)]
  omega
theorem vv_drop (s : ByteArray) (m k : Nat) (hm : m ≤ k) (hk : k < s.size) :
    vv ((s.data.toList.take (k + 1)).drop m) = (s[m]'(by omega)).toNat % 128 + 128 * vv ((s.data.toList.take (k + 1)).drop (m + 1)) := by
  have hl := take_length s (k + 1) (by omega)
  rw [List.drop_eq_getElem_cons (by omega), vv, List.getElem_take]
  rfl
end RefTake
set_option maxRecDepth 100000 in
set_option maxHeartbeats 2000000 in
theorem ref_take_walk (s : ByteArray) (w : World) (hs : s.size ≤ maxLen) :
    Calls Try.prog 22 #[.string s] w fun e w' => e = .returned (.tuple #[.int .i64 (takeA s).1, .string (str (takeA s).2.1), .int .i64 (takeA s).2.2]) ∧ Below w.heap.size w w' := by
  unfold maxLen at hs
  go_enter Try.func22, Try.ntmps22
  go_wp2
  go_loop [5] (fun i => ∃ (k : Nat), k ≤ s.size ∧ k ≤ 10 ∧ i = .int .i64 k ∧ Hid (Cont (s.data.toList.take k))) (fun i => s.size - (intOf i).toNat)
  case atStart => exact ⟨0, by omega, by omega, rfl, fun b hb => by simp at hb⟩
  case round =>
    obtain ⟨k, hk, hk10, rfl, hcont⟩ := hrel
    by_cases hlt : k < s.size
    · by_cases hlt10 : k < 10
      · by_cases hc : 127 < (s[k].toNat : Int)
        · go_wp2
          go_round
          case rel =>
            refine ⟨k + 1, by omega, by omega, by go_num, ?_⟩
            show Cont _
            rw [take_snoc s k hlt]; exact hcont.out.snoc (by omega)
          case measure => simp [intOf]; omega
        · have hkb : ((k : Int) == 10) = false := by simp; omega
          have hkb2 : ((k : Int) == (s.size : Int)) = false := by simp; omega
          have hlen := take_length s (k + 1) (by omega)
          have HL := Lib.hid hlen
          clear hlen
          go_wp2
          go_loop [6, 7] (fun u i => ∃ (t : Int) (j U : Nat), i = .int .i64 t ∧ t = (j : Int) - 1 ∧ j ≤ k + 1 ∧ u = .int .u64 (U : Int) ∧ U < 18446744073709551616 ∧ Hid (U = vv ((s.data.toList.take (k + 1)).drop j) % 18446744073709551616)) (fun _ i => (intOf i + 1).toNat)
          case atStart => exact ⟨k, k + 1, 0, rfl, by omega, by omega, rfl, by omega, by rw [List.drop_of_length_le (by rw [HL.out]; omega)]; rfl⟩
          case round =>
            obtain ⟨t, j, U, rfl, ht, hj, rfl, hU, HU⟩ := hrel
            rcases j with _ | m
            · obtain rfl : t = -1 := by omega
              have HT := Lib.hid ht
              clear ht
              have hUe : U = vv (s.data.toList.take (k + 1)) % 18446744073709551616 := HU.out
              have HUe := Lib.hid hUe
              have hI := unzig_i64 hU
              have hput : putL (unzig U) = enc U := by unfold putL; rw [zig_unzig]
              have hs1 := Lib.hid (toList_at s k hlt)
              have hs2 := Lib.hid (take_snoc s k hlt)
              clear hUe HU
              obtain ⟨N, hN⟩ : ∃ N, N = unzig U := ⟨_, rfl⟩
              have hN2 : ((U : Int) % 2 = 1 ∧ -((U : Int) / 2) - 1 = N) ∨ ((U : Int) % 2 ≠ 1 ∧ (U : Int) / 2 = N) := by
                rw [hN]; unfold unzig
                split <;> omega
              rw [← hN] at hput hI
              have HN := Lib.hid hN
              clear hN
              have hw1 : IntKind.i64.wrap ((k : Int) + 1) = (k : Int) + 1 := IntWalk.i64_in _ (by omega)
              have hw2 : (0 : Int) ≤ (k : Int) + 1 := by omega
              have hw3 : ((k : Int) + 1).toNat = k + 1 := by omega
              have hw4 : (k : Int) + 1 ≤ (s.size : Int) := by omega
              by_cases he : enc U = s.data.toList.take (k + 1)
              · have e0 : takeA s = (N, s.data.toList.drop (k + 1), 0) := by
                  have h1 := ref_yes (s.data.toList.take k) (s.data.toList.drop (k + 1)) s[k] hcont.out (by omega) (by rw [← hs2.out, ← HUe.out]; exact he)
                  rw [← hs1.out, ← hs2.out, ← HUe.out, ← HN.out] at h1
                  unfold takeA; rw [h1]
                have HE := Lib.hid e0
                have hstr : str (putL N) = s.extract 0 (k + 1) := by rw [hput, he, str_take]
                have hc14 : ∀ w, Calls Try.prog 26 #[.int .i64 N] w fun e w' => e = .returned (.string (s.extract 0 (k + 1))) ∧ Below w.heap.size w w' := fun w => by
                  rw [← hstr]; exact ref_put_walk N w hI
                have H14 := Lib.hid hc14
                have hq1 := bytes_eq (s.extract 0 (k + 1))
                clear e0 he hput hstr hc14
                rcases hN2 with ⟨h2, hNe⟩ | ⟨h2, hNe⟩
                · have hb : ((U : Int) % 2 == 1) = true := beq_iff_eq.2 h2
                  clear h2
                  go_wp2
                  go_region_with (go_at_call 26; refine (H14.out _).mono ?_; rintro e w1 ⟨rfl, hbel⟩)
                  go_wp2
                  go_quiet (fail)
                  go_wp2
                  go_ret3
                  exact ⟨by rw [HE.out, str_drop]; rfl, (undrew hbel).trans (below_drewN _ _ _)⟩
                · have hb : ((U : Int) % 2 == 1) = false := beq_eq_false_iff_ne.2 h2
                  clear h2
                  go_wp2
                  go_region_with (go_at_call 26; refine (H14.out _).mono ?_; rintro e w1 ⟨rfl, hbel⟩)
                  go_wp2
                  go_quiet (fail)
                  go_wp2
                  go_ret3
                  exact ⟨by rw [HE.out, str_drop]; rfl, (undrew hbel).trans (below_drewN _ _ _)⟩
              · have e0 : takeA s = (0, [], 2) := by
                  have h1 := ref_no (s.data.toList.take k) (s.data.toList.drop (k + 1)) s[k] hcont.out (by omega) (by rw [← hs2.out, ← HUe.out]; exact he)
                  rw [← hs1.out] at h1
                  unfold takeA; rw [h1]
                have HE := Lib.hid e0
                have hq1 : ((str (putL N)).toList == (s.extract 0 (k + 1)).toList) = false := bytes_ne (by rw [hput, ← str_take]; exact fun e => he (str_inj e))
                clear e0 he hput
                rcases hN2 with ⟨h2, hNe⟩ | ⟨h2, hNe⟩
                · have hb : ((U : Int) % 2 == 1) = true := beq_iff_eq.2 h2
                  clear h2
                  go_wp2
                  go_region_with (go_at_call 26; refine (ref_put_walk N _ hI).mono ?_; rintro e w1 ⟨rfl, hbel⟩)
                  go_wp2
                  go_ret3
                  exact ⟨by rw [HE.out]; rfl, undrew hbel⟩
                · have hb : ((U : Int) % 2 == 1) = false := beq_eq_false_iff_ne.2 h2
                  clear h2
                  go_wp2
                  go_region_with (go_at_call 26; refine (ref_put_walk N _ hI).mono ?_; rintro e w1 ⟨rfl, hbel⟩)
                  go_wp2
                  go_ret3
                  exact ⟨by rw [HE.out]; rfl, undrew hbel⟩
            · obtain rfl : t = (m : Int) := by omega
              have HT := Lib.hid ht
              clear ht
              have hmlt : m < s.size := by omega
              have hst := RefTake.step U s[m].toNat hU (by have := s[m].toNat_lt; omega)
              go_wp2
              go_round
              case rel =>
                refine ⟨(m : Int) - 1, m, (U * 128 + s[m].toNat % 128) % 18446744073709551616, rfl, rfl, by omega, rfl, Nat.mod_lt _ (by omega), ?_⟩
                show _ = vv _ % _
                rw [RefTake.vv_drop s m k (by omega) hlt, HU.out]
                try omega
              case measure => simp only [intOf]; omega
      · have e0 : takeA s = (0, [], 2) := by
          have h1 : takeL s.data.toList = none := by
            have : s.data.toList = s.data.toList.take k ++ s.data.toList.drop k := (List.take_append_drop _ _).symm
            rw [this]; exact take_ten _ _ hcont.out (by rw [take_length s k hk]; omega)
          unfold takeA; rw [h1]
        have HE := Lib.hid e0
        have hkb : ((k : Int) == 10) = true := by simp; omega
        clear e0
        go_wp2
        go_ret3
        exact ⟨by rw [HE.out]; rfl, Below.refl _ _⟩
    · have e0 : takeA s = (0, [], 2) := by
        have hc := hcont.out
        have : s.data.toList.length = s.size := by show s.data.toList.length = s.data.size; simp
        rw [List.take_of_length_le (by omega)] at hc
        unfold takeA; rw [take_end _ hc]
      have HE := Lib.hid e0
      have hkb : ((k : Int) == (s.size : Int)) = true := by simp; omega
      clear e0
      go_wp2
      go_ret3
      exact ⟨by rw [HE.out]; rfl, Below.refl _ _⟩
end Go.Proofs.Ytnhchmbbhkgccaa
