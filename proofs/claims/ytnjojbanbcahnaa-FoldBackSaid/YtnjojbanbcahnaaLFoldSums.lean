/- The walk of the statement FoldSums of layer 15. -/
import Derived.Test.YtnjojbanbcahnaaFoldAll
namespace Go.Proofs.Ytnjojbanbcahnaa
open Go.RowKit Vm Fo
set_option linter.unusedVariables false

theorem Sl.take {w : World} {B : Nat} {a : Option Addr} {xs : List Value} (h : Sl w B a xs) (k : Nat) : Sl w B a (xs.take k) := by
  rcases h with rfl | ⟨b, off, e, hlt, hc⟩
  · exact .inl (by simp)
  · refine .inr ⟨b, off, e, hlt, fun j u hu => hc j u ?_⟩
    rw [List.getElem?_take] at hu
    split at hu
    · exact hu
    · cases hu
/-- The first numbers of a slice that came in, 300 at the most. -/
theorem row_some {w : World} {a : Option Addr} {len cap : Nat} {zs : List Int} (hr : IsRow .i64 w a len cap zs) :
    ∃ xs : List Int, xs.length = min len 300 ∧ Sl w w.heap.size a (i64s xs) ∧ (∀ x ∈ xs, I64 x) ∧ (len : Int) ≤ 9223372036854775807 ∧ len ≤ cap := by
  have hl := row_len hr
  refine ⟨(zs.take len).take (min len 300), by rw [List.length_take, hl]; omega, ?_, fun x hx => wf_i64 (row_wf hr x (List.mem_of_mem_take hx)), ?_, ?_⟩
  · have := (Sl.row hr).take (min len 300)
    rwa [← List.map_take] at this
  · rcases hr with ⟨_, rfl, _, _⟩ | ⟨x, _, h1, h2, _⟩
    · omega
    · unfold maxLen at h2; omega
  · rcases hr with ⟨_, rfl, rfl, _⟩ | ⟨x, _, h1, h2, _⟩
    · omega
    · exact h1
theorem sum_cases (a b : Int) : (0 < b ∧ 9223372036854775807 - b < a ∧ sat a b = 9223372036854775807) ∨ (0 < b ∧ ¬ 9223372036854775807 - b < a ∧ ¬ b < 0 ∧ sat a b = IntKind.i64.wrap (a + b)) ∨ (¬ 0 < b ∧ b < 0 ∧ a < -9223372036854775808 - b ∧ sat a b = -9223372036854775808) ∨ (¬ 0 < b ∧ b < 0 ∧ ¬ a < -9223372036854775808 - b ∧ sat a b = IntKind.i64.wrap (a + b)) ∨ (¬ 0 < b ∧ ¬ b < 0 ∧ sat a b = IntKind.i64.wrap (a + b)) ∨ ¬ I64 a ∨ ¬ I64 b := by
  by_cases ha : I64 a
  · by_cases hb : I64 b
    · unfold I64 at ha hb
      unfold sat Top Bot
      by_cases h1 : 0 < b
      · by_cases h2 : 9223372036854775807 - b < a
        · left; exact ⟨h1, h2, by rw [if_pos (by omega)]⟩
        · right; left; exact ⟨h1, h2, by omega, by rw [if_neg (by omega), if_neg (by omega), IntWalk.i64_in _ (by omega)]⟩
      · by_cases h2 : b < 0
        · by_cases h3 : a < -9223372036854775808 - b
          · right; right; left; exact ⟨h1, h2, h3, by rw [if_neg (by omega), if_pos (by omega)]⟩
          · right; right; right; left; exact ⟨h1, h2, h3, by rw [if_neg (by omega), if_neg (by omega), IntWalk.i64_in _ (by omega)]⟩
        · right; right; right; right; left; exact ⟨h1, h2, by rw [if_neg (by omega), if_neg (by omega), IntWalk.i64_in _ (by omega)]⟩
    · simp [hb]
  · simp [ha]

theorem field_sum (a : Ag) (w : World) : (Instr.field 53 (av a) 1).run Try.prog w = .ok (.int .i64 a.sum) w := by kernel_rfl

set_option maxRecDepth 100000 in
set_option maxHeartbeats 4000000 in
theorem foldSums_law (a : Option Addr) (len cap : Nat) (zs : List Int) (w : World) (hr : IsRow .i64 w a len cap zs) (hcap : cap * 8 ≤ 140737488351232) :
    Calls Try.prog 12 #[.slice a len cap] w fun e w' => e = .returned (.bool true) ∧ Below w.heap.size w w' := by
  obtain ⟨xs, hxl, hsl, hxi, hl1, hl2⟩ := row_some hr
  have HXL := Lib.hid hxl
  have HXI := Lib.hid hxi
  clear hr hxl hxi
  go_enter Try.func12, Try.ntmps12
  go_wp2_with fail
  refine (some_walk a len cap _ hl1 hl2).mono ?_
  rintro e w1 ⟨rfl, rfl⟩
  obtain ⟨N, hN⟩ : ∃ N, N = min len 300 := ⟨_, rfl⟩
  rw [← hN] at HXL ⊢
  have hN3 : N ≤ 300 := by omega
  clear hN
  go_wp2_with fail
  go_loop [3, 4] (fun s i => ∃ k : Nat, k ≤ N ∧ i = .int .i64 k ∧ s = .int .i64 (allA (xs.take k)).sum) (fun _ i => N - (intOf i).toNat)
  case atStart => exact ⟨0, by omega, rfl, rfl⟩
  case round =>
    obtain ⟨k, hk, rfl, rfl⟩ := hrel
    by_cases hlt : k < N
    · have hkx : k < xs.length := by rw [HXL.out]; exact hlt
      obtain ⟨b1, o1, rfl, _, k1⟩ := hsl.at (j := k) (by rw [i64s_length]; exact hkx)
      rw [i64s_at _ _ hkx] at k1
      have hi := HXI.out xs[k] (List.getElem_mem hkx)
      have hts : (allA (xs.take (k + 1))).sum = sat (allA (xs.take k)).sum xs[k] := by rw [List.take_succ_eq_append_getElem hkx, allA_snoc]; rfl
      have hwf := (allA_wf (l := xs.take k) (fun m hm => HXI.out m (List.mem_of_mem_take hm))).s
      generalize xs[k] = x at *
      generalize (allA (xs.take k)).sum = s at *
      have hc := sum_cases s x
      rcases hc with ⟨h1, h2, h3⟩ | ⟨h1, h2, h3, h4⟩ | ⟨h1, h2, h3, h4⟩ | ⟨h1, h2, h3, h4⟩ | ⟨h1, h2, h4⟩ | h | h
      · rw [h3] at hts
        have HTS := Lib.hid hts
        clear h3 hts
        unfold I64 at hi hwf
        go_wp2
        go_round
        case rel => exact ⟨k + 1, by omega, by go_num, by rw [HTS.out]⟩
        case measure => simp [intOf]; omega
      · rw [h4] at hts
        have HTS := Lib.hid hts
        unfold I64 at hi hwf
        rw [IntWalk.i64_in _ (by omega)] at HTS
        clear h4 hts
        go_wp2
        go_round
        case rel => exact ⟨k + 1, by omega, by go_num, by rw [HTS.out]⟩
        case measure => simp [intOf]; omega
      · rw [h4] at hts
        have HTS := Lib.hid hts
        clear h4 hts
        unfold I64 at hi hwf
        go_wp2
        go_round
        case rel => exact ⟨k + 1, by omega, by go_num, by rw [HTS.out]⟩
        case measure => simp [intOf]; omega
      · rw [h4] at hts
        have HTS := Lib.hid hts
        unfold I64 at hi hwf
        rw [IntWalk.i64_in _ (by omega)] at HTS
        clear h4 hts
        go_wp2
        go_round
        case rel => exact ⟨k + 1, by omega, by go_num, by rw [HTS.out]⟩
        case measure => simp [intOf]; omega
      · rw [h4] at hts
        have HTS := Lib.hid hts
        unfold I64 at hi hwf
        rw [IntWalk.i64_in _ (by omega)] at HTS
        clear h4 hts
        go_wp2
        go_round
        case rel => exact ⟨k + 1, by omega, by go_num, by rw [HTS.out]⟩
        case measure => simp [intOf]; omega
      · exact absurd hwf h
      · exact absurd hi h
    · have hall : xs.take k = xs := List.take_of_length_le (by rw [HXL.out]; omega)
      rw [hall]
      have hq : ((allA xs).sum == (allA xs).sum) = true := by simp
      have hfs := field_sum (allA xs)
      have HA := Lib.hid hall
      clear hall
      go_wp2_with fail
      refine (all_walk a N cap _ xs _ HXL.out.symm (by omega) hsl (Nat.le_refl _) HXI.out).mono ?_
      rintro e w2 ⟨rfl, g2⟩
      go_wp2_with fail
      refine (awake15_walk _).mono ?_
      rintro e w3 ⟨rfl, g3⟩
      go_wp2_with fail
      go_ret
      exact ⟨rfl, gtrans g2 g3⟩
end Go.Proofs.Ytnjojbanbcahnaa
