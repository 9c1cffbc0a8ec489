/- Top for any number. -/
import Derived.Test.YthghnpopcnnidaaHvTell
namespace Go.Proofs.Ythghnpopcnnidaa
open Go.RowKit Go.Lib Vm
set_option linter.unusedVariables false
set_option linter.unusedSimpArgs false

set_option maxRecDepth 100000 in
set_option maxHeartbeats 4000000 in
theorem top_big (n : Nat) (H : Hv) (g : Nat) (a : Option Addr) (c : Nat) (w : World) (hn0 : 1 ≤ n) (hn1 : n ≤ 9223372036854775807) (hNm : H.L.length ≤ 1000) (h : HvW w g H a c) :
    Calls Try.prog 19 #[.pointer (some ⟨g, 0, none⟩), .int .i64 n] w (TopPost H.L (min n H.L.length) w) := by
  have HC := Lib.hid (clone_ta H.L H.L.length a c w.heap.size w rfl (by omega) (ownN_sl h.row) (Nat.le_refl _))
  obtain ⟨m0, m1, m2, hfz⟩ := h.three
  have hgl := h.lt
  obtain ⟨N, hN⟩ : ∃ N, H.L.length = N := ⟨_, rfl⟩
  rw [hN] at HC m2 hNm ⊢
  obtain ⟨K, hK⟩ : ∃ K, min n N = K := ⟨_, rfl⟩
  have hKN : K ≤ N := by omega
  rw [hK]
  have HKm := Lib.hid (show min (n : Int) (N : Int) = (K : Int) by omega)
  have HN := Lib.hid hN
  have g1 : ¬ (n : Int) < 1 := by omega
  clear h hfz m0 m1 hN hK
  go_enter Try.func19, Try.ntmps19
  go_wp2_with fail
  refine HC.out.mono ?_
  rintro e w1 ⟨a1, c1, rfl, own1, b1⟩
  have hlow := Lib.hid (own_low own1)
  have hcap := (ownN_cap own1).2
  rcases Nat.eq_zero_or_pos N with h0 | h0
  · subst h0
    obtain rfl : K = 0 := by omega
    have KS : Calls Try.prog 31 #[.slice a1 0 c1, .func (.func 32) #[] #[]] w1 fun e w' => e = .returned (.tuple #[]) ∧ w' = w1 := AnyF.slices_SortFunc_none Try.sortTa a1 c1 _ w1
    have HKS := Lib.hid KS
    have hk : min (n : Int) 0 = 0 := by omega
    clear HC own1 KS hcap
    go_wp2_with fail
    refine HKS.out.mono ?_
    rintro e w2 ⟨rfl, hw⟩
    subst hw
    have hc0 : (0 : Int) ≤ (c1 : Int) := by omega
    go_wp2_with fail
    go_ret
    exact ⟨a1, c1, rfl, by rw [List.take_zero]; exact Sl.nil _ _ _, hlow.out, b1⟩
  · obtain ⟨gm, rfl, _, _, _, _⟩ := ownN_at own1 h0
    have HKS := Lib.hid (sort_t H.L N gm c1 w.heap.size w1 HN.out h0 (by omega) own1 b1.size)
    have hk := HKm.out
    have hk0 : 0 ≤ (K : Int) := by omega
    have hkc : (K : Int) ≤ (c1 : Int) := by omega
    have hkc2 : K ≤ c1 := by omega
    clear HC own1 HKm
    go_wp2_with fail
    refine HKS.out.mono ?_
    rintro e w2 ⟨rfl, s2, b2⟩
    have hsl := Lib.hid (ta_pre s2 K)
    have hBB := Lib.hid (b1.trans b2)
    have hz := b2.size
    clear HKS s2
    go_wp2_with fail
    go_ret
    exact ⟨_, c1, rfl, hsl.out, fun x hx => by have := hlow.out x hx; omega, hBB.out⟩
end Go.Proofs.Ythghnpopcnnidaa
