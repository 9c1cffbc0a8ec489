/- The walk of headgateref36.Has. -/
import Derived.Test.YtbhbilmpkgcmeaaQuValid
namespace Go.Proofs.Ytbhbilmpkgcmeaa
open Go.RowKit Vm
set_option linter.unusedVariables false

set_option maxRecDepth 100000 in
set_option maxHeartbeats 2000000 in
theorem rhas_walk (t m : Int) (a : Ac) (now : Int) (w : World) (ht : MayQ t m) (hl : 0 ≤ a.l ∧ a.l ≤ m) (hs : 0 ≤ a.s ∧ a.s ≤ now) (hn : now ≤ 1099511627776) :
    Calls Try.prog 69 #[.agg #[.int .i64 t, .int .i64 m], .agg #[.int .i64 a.o, .int .i64 a.l, .int .i64 a.s], .int .i64 now] w fun e w' => e = .returned (.int .i64 (availQ t m a now)) ∧ Below w.heap.size w w' := by
  have hal : Below w.heap.size w ((w.alloc (.cells #[.int .i64 t, .int .i64 m] 60)).alloc (.cells #[.int .i64 a.o, .int .i64 a.l, .int .i64 a.s] 102)) := ((Below.refl _ _).alloc (Nat.le_refl _) _).alloc (by simp) _
  have hb := mul_boundQ (t := t) (d := now - a.s) (by have := ht.1; omega) ht.2.1 (by omega) (by omega)
  obtain ⟨o, l, s⟩ := a
  obtain ⟨h1, h2, h3, h4⟩ := ht
  simp only at hl hs hb hal ⊢
  obtain ⟨hl1, hl2⟩ := hl
  obtain ⟨hs1, hs2⟩ := hs
  have HAV := Lib.hid (show availQ t m ⟨o, l, s⟩ now = if m ≤ l + t * (now - s) then m else l + t * (now - s) from rfl)
  have HB := Lib.hid hb
  clear hb
  go_enter Try.func69, Try.ntmps69
  go_wp2_with fail
  go_loop [7, 8] (fun n i => ∃ (j : Nat) (V : Int), s + (j : Int) ≤ now ∧ i = .int .i64 (s + (j : Int)) ∧ n = .int .i64 V ∧ Hid (V = l + t * (j : Int)) ∧ 0 ≤ V ∧ V < m + t ∧ (j : Int) ≤ 1048576) (fun _ i => (now - intOf i).toNat)
  case atStart => exact ⟨0, l, by omega, by simp, rfl, Lib.hid (by simp), by omega, by omega, by omega⟩
  case round =>
    obtain ⟨j, V, hj, rfl, rfl, HV, hv0, hv1, hj2⟩ := hrel
    by_cases hlt : s + (j : Int) < now
    · by_cases hvm : V < m
      · have hcj : ((j + 1 : Nat) : Int) = (j : Int) + 1 := by omega
        have HV2 := Lib.hid (show V + t = l + t * ((j + 1 : Nat) : Int) by rw [HV.out, hcj, Int.mul_add, Int.mul_one]; omega)
        clear hcj
        have hjb : (j : Int) + 1 ≤ 1048576 := by
          have e := HV.out
          have h5 : 1 * (j : Int) ≤ t * (j : Int) := Int.mul_le_mul_of_nonneg_right h1 (by omega)
          omega
        have hw1 : IntKind.i64.wrap (V + t) = V + t := IntWalk.i64_in _ (by omega)
        have hw2 : IntKind.i64.wrap (s + (j : Int) + 1) = s + (j : Int) + 1 := IntWalk.i64_in _ (by omega)
        clear HV
        go_wp2_with fail
        go_round
        case rel => exact ⟨j + 1, V + t, by omega, congrArg (Value.int .i64) (by omega), rfl, HV2, by omega, by omega, by omega⟩
        case measure => simp [intOf]; omega
      · have hA : availQ t m ⟨o, l, s⟩ now = m := by
          rw [HAV.out, if_pos]
          have e := HV.out
          have h5 : t * (j : Int) ≤ t * (now - s) := Int.mul_le_mul_of_nonneg_left (by omega) (by omega)
          omega
        have HA2 := Lib.hid hA
        clear hA HV
        by_cases hgt : m < V
        · go_wp2_with fail
          go_ret
          exact ⟨by rw [HA2.out]; rfl, hal⟩
        · obtain rfl : V = m := by omega
          go_wp2_with fail
          go_ret
          exact ⟨by rw [HA2.out]; rfl, hal⟩
    · have hjn : (j : Int) = now - s := by omega
      have hA : (m ≤ V ∧ availQ t m ⟨o, l, s⟩ now = m) ∨ (V < m ∧ availQ t m ⟨o, l, s⟩ now = V) := by
        rw [HAV.out, ← hjn, ← HV.out]
        by_cases h : m ≤ V
        · exact .inl ⟨h, if_pos h⟩
        · exact .inr ⟨by omega, if_neg h⟩
      clear hjn HV
      rcases hA with ⟨h, hA⟩ | ⟨h, hA⟩
      · have HA2 := Lib.hid hA
        clear hA
        by_cases hgt : m < V
        · go_wp2_with fail
          go_ret
          exact ⟨by rw [HA2.out]; rfl, hal⟩
        · obtain rfl : V = m := by omega
          go_wp2_with fail
          go_ret
          exact ⟨by rw [HA2.out]; rfl, hal⟩
      · have HA2 := Lib.hid hA
        clear hA
        have hgt : ¬ m < V := by omega
        go_wp2_with fail
        go_ret
        exact ⟨by rw [HA2.out]; rfl, hal⟩
end Go.Proofs.Ytbhbilmpkgcmeaa
