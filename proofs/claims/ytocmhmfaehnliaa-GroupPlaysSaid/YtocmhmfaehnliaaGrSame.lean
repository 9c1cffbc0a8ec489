/- The walk of headgateref01.Same at any two rows. -/
import Derived.Test.YtocmhmfaehnliaaAsKit
import Derived.BigQuiet
namespace Go.Proofs.Ytocmhmfaehnliaa
open Go.RowKit Vm As
set_option linter.unusedVariables false
set_option linter.unusedSimpArgs false

def AgreeTo (A B : List Int) (k : Nat) : Prop := ∀ p, p < k → A.getD p 0 = B.getD p 0
theorem agree_all {A B : List Int} {n : Nat} (hA : A.length = n) (hB : B.length = n) (h : AgreeTo A B n) : A = B := by
  apply List.ext_getElem (by omega)
  intro i h1 h2
  have := h i (by omega)
  simpa [List.getD, h1, h2] using this
set_option maxRecDepth 100000 in
set_option maxHeartbeats 4000000 in
theorem same_dec (A B : List Int) (n m : Nat) (a b : Option Addr) (c d : Nat) (w : World) (r : Bool) (hA : A.length = n) (hB : B.length = m) (hn : n ≤ 1000) (hm : m ≤ 1000) (ha : Sl w w.heap.size a (i64s A)) (hb : Sl w w.heap.size b (i64s B)) (hr : r = true ↔ A = B) :
    Calls Try.prog 25 #[.slice a n c, .slice b m d] w fun e w' => e = .returned (.bool r) ∧ Below w.heap.size w w' := by
  have HR := Lib.hid hr
  have HA := Lib.hid hA
  have HB := Lib.hid hB
  have SA := Lib.hid ha
  have SB := Lib.hid hb
  by_cases hnm : n = m
  · subst hnm
    clear hr hA hB ha hb
    go_enter Try.func25, Try.ntmps25
    go_wp2_with fail
    go_loopw [5] (fun i wr => ∃ k : Nat, k ≤ n ∧ i = .int .i64 k ∧ Hid (AgreeTo A B k) ∧ Drew w wr) (fun i _ => n - (intOf i).toNat)
    case atStart => exact ⟨0, by omega, rfl, Lib.hid (fun p hp => by omega), Drew.refl _⟩
    case round =>
      obtain ⟨k, hk, rfl, HG, hd⟩ := hrel
      by_cases hlt : k < n
      · obtain ⟨b1, o1, rfl, hb1, h1⟩ := (SA.out.drew hd).ints (by rw [HA.out]; omega)
        obtain ⟨b2, o2, rfl, hb2, h2⟩ := (SB.out.drew hd).ints (by rw [HB.out]; omega)
        have r1 := h1 k (by rw [HA.out]; exact hlt)
        have r2 := h2 k (by rw [HB.out]; exact hlt)
        have hlt2 : (k : Int) < (n : Int) := by omega
        have hk0 : 0 ≤ (k : Int) := by omega
        obtain ⟨x, hx⟩ : ∃ x, A.getD k 0 = x := ⟨_, rfl⟩
        obtain ⟨y, hy⟩ : ∃ y, B.getD k 0 = y := ⟨_, rfl⟩
        rw [hx] at r1
        rw [hy] at r2
        have HX := Lib.hid hx
        have HY := Lib.hid hy
        clear h1 h2 hx hy
        by_cases hxy : x = y
        · have hq : (x != y) = false := by simp [hxy]
          have HG2 := Lib.hid (show AgreeTo A B (k + 1) from fun p hp => by
            rcases Nat.lt_or_ge p k with h1 | h1
            · exact HG.out p h1
            · rw [show p = k from by omega, HX.out, HY.out, hxy])
          clear hxy
          go_wp2_with fail
          go_quiet (fail)
          go_wp2_with fail
          go_roundw
          case rel => exact ⟨k + 1, by omega, by go_num, HG2, hd.trans (Drew.of _ _)⟩
          case measure => simp [intOf]; omega
        · have hq : (x != y) = true := by simpa using hxy
          have HRF : Hid (r = false) := Lib.hid (by
            cases hrr : r
            · rfl
            · have := HR.out.1 hrr
              rw [this, HY.out] at HX
              exact absurd HX.out.symm hxy)
          have hbel := (hd.trans (Drew.of _ 1)).below w.heap.size
          clear hxy
          go_wp2_with fail
          go_quiet (fail)
          go_wp2_with fail
          go_ret
          exact ⟨by rw [HRF.out]; rfl, (hd.trans (Drew.of _ _)).below _⟩
      · obtain rfl : k = n := by omega
        have HRT : Hid (r = true) := Lib.hid (HR.out.2 (agree_all HA.out HB.out HG.out))
        go_wp2_with fail
        go_ret
        exact ⟨by rw [HRT.out]; rfl, hd.below _⟩
  · have HRF : Hid (r = false) := Lib.hid (by
      cases hrr : r
      · rfl
      · have := HR.out.1 hrr
        have h1 := HA.out
        have h2 := HB.out
        rw [this] at h1
        omega)
    have hne : ((n : Int) != (m : Int)) = true := by
      have : (n : Int) ≠ (m : Int) := by omega
      simpa using this
    clear hr hA hB ha hb hnm
    go_enter Try.func25, Try.ntmps25
    go_wp2_with fail
    go_ret
    exact ⟨by rw [HRF.out]; rfl, Below.refl _ _⟩
end Go.Proofs.Ytocmhmfaehnliaa
