/- The walks of headgateref06's in and May of a record. -/
import Derived.Test.YtfjnmjibifefgaaBatCheck2
namespace Go.Proofs.Ytfjnmjibifefgaa
open Go.RowKit Vm Bm
set_option linter.unusedVariables false

set_option maxRecDepth 100000 in
set_option maxHeartbeats 1000000 in
theorem in_walk (n : Int) (b : Bool) (w : World) (hb : b = true ↔ 0 ≤ n ∧ n ≤ 1099511627776) :
    Calls Try.prog 47 #[.int .i64 n] w fun e w' => e = .returned (.bool b) ∧ w' = w := by
  by_cases h1 : 0 ≤ n
  · by_cases h2 : n ≤ 1099511627776
    · obtain rfl : b = true := by rw [hb]; exact ⟨h1, h2⟩
      clear hb
      go_enter Try.func47, Try.ntmps47
      go_wp2_with fail
      go_ret
      exact ⟨rfl, rfl⟩
    · obtain rfl : b = false := by rw [Bool.eq_false_iff, Ne, hb]; exact fun h => h2 h.2
      clear hb
      go_enter Try.func47, Try.ntmps47
      go_wp2_with fail
      go_ret
      exact ⟨rfl, rfl⟩
  · obtain rfl : b = false := by rw [Bool.eq_false_iff, Ne, hb]; exact fun h => h1 h.1
    clear hb
    go_enter Try.func47, Try.ntmps47
    go_wp2_with fail
    go_ret
    exact ⟨rfl, rfl⟩

set_option maxRecDepth 100000 in
set_option maxHeartbeats 2000000 in
theorem mayrec_walk (r : Rec) (b : Bool) (w : World) (hb : b = true ↔ MayR r) :
    Calls Try.prog 48 #[rv r] w fun e w' => e = .returned (.bool b) ∧ Below w.heap.size w w' := by
  obtain ⟨k, t, x⟩ := r
  unfold MayR at hb
  simp only at hb
  have hz : ((str x).size : Int) = x.length := by rw [str_size]
  have hal : Below w.heap.size w (w.alloc (.cells #[.int .i64 k, .int .i64 t, .string (str x)] 82)) := (Below.refl _ _).alloc (Nat.le_refl _) _
  have HAL := Lib.hid hal
  clear hal
  simp only [rv]
  by_cases h1 : 0 ≤ k
  · by_cases h2 : k ≤ 1048576
    · by_cases h3 : 0 ≤ t ∧ t ≤ 1099511627776
      · have H3 := Lib.hid h3
        by_cases h4 : ((str x).size : Int) ≤ 512
        · obtain rfl : b = true := by rw [hb]; omega
          clear hb hz h3
          go_enter Try.func48, Try.ntmps48
          go_wp2_with fail
          refine (in_walk t true _ ⟨fun _ => H3.out, fun _ => rfl⟩).mono ?_
          rintro e w1 ⟨rfl, rfl⟩
          go_wp2_with fail
          go_ret
          exact ⟨rfl, HAL.out⟩
        · obtain rfl : b = false := by rw [Bool.eq_false_iff, Ne, hb]; omega
          clear hb hz h3
          go_enter Try.func48, Try.ntmps48
          go_wp2_with fail
          refine (in_walk t true _ ⟨fun _ => H3.out, fun _ => rfl⟩).mono ?_
          rintro e w1 ⟨rfl, rfl⟩
          go_wp2_with fail
          go_ret
          refine ⟨?_, HAL.out⟩
          first | rfl | (rw [show decide (((str x).size : Int) ≤ 512) = false from decide_eq_false (by omega)]; rfl)
      · have H3 := Lib.hid h3
        obtain rfl : b = false := by rw [Bool.eq_false_iff, Ne, hb]; omega
        clear hb hz h3
        go_enter Try.func48, Try.ntmps48
        go_wp2_with fail
        refine (in_walk t false _ ⟨fun h => (by cases h), fun h => absurd h H3.out⟩).mono ?_
        rintro e w1 ⟨rfl, rfl⟩
        go_wp2_with fail
        go_ret
        exact ⟨rfl, HAL.out⟩
    · obtain rfl : b = false := by rw [Bool.eq_false_iff, Ne, hb]; omega
      clear hb hz
      go_enter Try.func48, Try.ntmps48
      go_wp2_with fail
      go_ret
      exact ⟨rfl, HAL.out⟩
  · obtain rfl : b = false := by rw [Bool.eq_false_iff, Ne, hb]; omega
    clear hb hz
    go_enter Try.func48, Try.ntmps48
    go_wp2_with fail
    go_ret
    exact ⟨rfl, HAL.out⟩

end Go.Proofs.Ytfjnmjibifefgaa
