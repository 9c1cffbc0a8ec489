/- The walk of headgateref15.All. -/
import Derived.Test.YtnjojbanbcahnaaRefFoldAdd
import Derived.Test.YtnjojbanbcahnaaFoldAll
import Derived.Deep.RegionWith
namespace Go.Proofs.Ytnjojbanbcahnaa
open Go.RowKit Vm Fo
set_option linter.unusedVariables false

set_option maxRecDepth 100000 in
set_option maxHeartbeats 2000000 in
theorem ref_all_walk (a : Option Addr) (n c B : Nat) (xs : List Int) (w : World) (hn : n = xs.length) (hm : n ≤ 9223372036854775807) (hs : Sl w B a (i64s xs)) (hB : B ≤ w.heap.size) (hx : ∀ x ∈ xs, I64 x) :
    Calls Try.prog 39 #[.slice a n c] w fun e w' => e = .returned (av (allA xs)) ∧ Below w.heap.size w w' := by
  have HN := Lib.hid hn
  have HX := Lib.hid hx
  have b0 : Whole ((w.alloc (.cells (avc zeroA) 53)).alloc (.cells (avc zeroA) 53)) (w.heap.size + 1) 53 (avc zeroA) := by
    have h := Whole.new (w.alloc (.cells (avc zeroA) 53)) 53 (avc zeroA)
    rwa [World.size_alloc] at h
  have B0 := Lib.hid b0
  clear b0
  have hbel : Below w.heap.size w ((w.alloc (.cells (avc zeroA) 53)).alloc (.cells (avc zeroA) 53)) := ((Below.refl _ _).alloc (Nat.le_refl _) _).alloc (by simp) _
  have R0 := Lib.hid ((Whole.new w 53 (avc zeroA)).keep ((Below.refl _ _).alloc (Nat.le_refl _) (.cells (avc zeroA) 53)))
  clear hn hx
  go_enter Try.func39, Try.ntmps39
  go_wp2
  go_loopw [4] (fun i wr => ∃ k : Nat, k ≤ n ∧ i = .int .i64 k ∧ Whole wr (w.heap.size + 1) 53 (avc (allA (xs.take k))) ∧ Whole wr w.heap.size 53 (avc zeroA) ∧ Below w.heap.size w wr) (fun i _ => n - (intOf i).toNat)
  case atStart => exact ⟨0, by omega, rfl, by exact B0.out, by exact R0.out, hbel⟩
  case round =>
    obtain ⟨k, hk, rfl, hW, hR, hb⟩ := hrel
    by_cases hlt : k < n
    · have hkx : k < xs.length := by have := HN.out; omega
      obtain ⟨b1, o1, rfl, hb1l, k1⟩ := (hs.below hb hB).at (j := k) (by rw [i64s_length]; exact hkx)
      rw [i64s_at _ _ hkx] at k1
      have hi := HX.out xs[k] (List.getElem_mem hkx)
      have hts : allA (xs.take (k + 1)) = addA (allA (xs.take k)) xs[k] := by rw [List.take_succ_eq_append_getElem hkx, allA_snoc]
      have HTS := Lib.hid hts
      have hwf := allA_wf (l := xs.take k) (fun m hm => HX.out m (List.mem_of_mem_take hm))
      generalize xs[k] = x at *
      generalize allA (xs.take k) = A at *
      have hkn : (k : Int) < (n : Int) := by omega
      have HW := Lib.hid hW
      obtain ⟨c0, c1, c2, c3, c4, c5, c6, c7, c8, c9, f0, f1, f2, f3, f4, f5, f6, f7, f8, f9⟩ := hW.ten
      have H := Lib.hid (fun w => ref_add_walk A x w hwf hi)
      clear hts hwf
      go_wp2_with fail
      have hkey : ∀ w1, Below wr.heap.size wr w1 → Ten w1 (w.heap.size + 1) A ∧ Whole w1 (w.heap.size + 1) 53 (avc A) ∧ Whole w1 w.heap.size 53 (avc zeroA) ∧ Below w.heap.size w w1 := fun w1 g => ⟨(HW.out.keep g).ten, HW.out.keep g, hR.keep g, hb.trans (g.mono hb.size)⟩
      have HK := Lib.hid hkey
      clear hkey hR hb hW
      go_region_with (go_at_call 33; refine (H.out _).mono ?_; rintro e w1 ⟨rfl, g1⟩; have hW1 := HK.out _ (undrew g1); obtain ⟨⟨d0, d1, d2, d3, d4, d5, d6, d7, d8, d9, e0, e1, e2, e3, e4, e5, e6, e7, e8, e9⟩, y1, y2, y3⟩ := hW1)
      all_goals
        have hW2 := y1.setTen (addA A x)
        have hb2 := below_setTen y3 (Nat.le_succ w.heap.size) (addA A x)
        have hR2 := y2.far (w.heap.size + 1) 0 (.int .i64 (addA A x).count) (by omega) |>.far (w.heap.size + 1) 1 (.int .i64 (addA A x).sum) (by omega) |>.far (w.heap.size + 1) 2 (.int .i64 (addA A x).min) (by omega) |>.far (w.heap.size + 1) 3 (.int .i64 (addA A x).max) (by omega) |>.far (w.heap.size + 1) 4 (.int .i64 (addA A x).h0) (by omega) |>.far (w.heap.size + 1) 5 (.int .i64 (addA A x).h1) (by omega) |>.far (w.heap.size + 1) 6 (.int .i64 (addA A x).h2) (by omega) |>.far (w.heap.size + 1) 7 (.int .i64 (addA A x).h3) (by omega) |>.far (w.heap.size + 1) 8 (.int .i64 (addA A x).re) (by omega) |>.far (w.heap.size + 1) 9 (.int .i64 (addA A x).im) (by omega)
        have HW2 := Lib.hid hW2
        have HB2 := Lib.hid hb2
        have HR2 := Lib.hid hR2
        clear hW2 hb2 hR2 y1 y2 y3
        go_wp2_with fail
        go_roundw
        case rel => exact ⟨k + 1, by omega, by go_num, by rw [HTS.out]; exact HW2.out, HR2.out, HB2.out⟩
        case measure => simp [intOf]; omega
    · have hall : xs.take k = xs := List.take_of_length_le (by have := HN.out; omega)
      rw [hall] at hW
      obtain ⟨c0, c1, c2, c3, c4, c5, c6, c7, c8, c9, f0, f1, f2, f3, f4, f5, f6, f7, f8, f9⟩ := hW.ten
      obtain ⟨d0, d1, d2, d3, d4, d5, d6, d7, d8, d9, g0, g1, g2, g3, g4, g5, g6, g7, g8, g9⟩ := hR.ten
      clear hW hR hall
      go_wp2
      refine bodyPost_ret ?_ rfl ⟨rfl, ?_⟩
      · simp [results, Try.results39, go_sem, d0, d1, d2, d3, d4, d5, d6, d7, d8, d9]
      · exact below_setTen hb (Nat.le_refl _) (allA xs)
end Go.Proofs.Ytnjojbanbcahnaa
