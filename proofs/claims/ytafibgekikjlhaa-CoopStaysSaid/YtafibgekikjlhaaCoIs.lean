/- The walks of slices.Contains, Coop.is and the getters. -/
import Derived.Test.YtafibgekikjlhaaCo
import Derived.BigQuiet
import Derived.Deep.Cut
namespace Go.Proofs.Ytafibgekikjlhaa
open Go.RowKit Vm As
set_option linter.unusedVariables false
set_option linter.unusedSimpArgs false

def NoIn (l : List Int) (x : Int) (k : Nat) : Prop := ∀ p, p < k → ¬ l.getD p 0 = x
theorem in_at {l : List Int} {x : Int} {k : Nat} (hk : k < l.length) (h : l.getD k 0 = x) : l.contains x = true := by
  rw [List.contains_iff_mem, ← h]
  exact memGet hk
theorem in_no {l : List Int} {x : Int} (h : NoIn l x l.length) : l.contains x = false := by
  cases hc : l.contains x
  · rfl
  · rw [List.contains_iff_mem] at hc
    obtain ⟨i, hi, he⟩ := List.mem_iff_getElem.1 hc
    have := h i hi
    rw [show l.getD i 0 = l[i] from by simp [List.getD, hi]] at this
    exact absurd he this
set_option maxRecDepth 100000 in
set_option maxHeartbeats 4000000 in
theorem index_walk (l : List Int) (N : Nat) (x : Int) (a : Option Addr) (c B : Nat) (w : World) (hN : l.length = N) (hNm : N ≤ 1000) (h : Sl w B a (i64s l)) (hB : B ≤ w.heap.size) :
    Calls Try.prog 56 #[.slice a N c, .int .i64 x] w fun e w' => ((∃ k : Nat, e = .returned (.int .i64 k) ∧ l.contains x = true) ∨ (e = .returned (.int .i64 (-1)) ∧ l.contains x = false)) ∧ w' = w := by
  have HN := Lib.hid hN
  have HS := Lib.hid h
  clear hN h
  go_enter Try.func56, Try.ntmps56
  go_wp2_with fail
  go_loopw [8] (fun I wr => ∃ k : Nat, k ≤ N ∧ I = .int .i64 k ∧ Hid (NoIn l x k) ∧ wr = w) (fun I _ => N - (intOf I).toNat)
  case atStart => exact ⟨0, by omega, rfl, Lib.hid (fun p hp => by omega), rfl⟩
  case round =>
    obtain ⟨k, hk, rfl, HL, hwr⟩ := hrel
    subst hwr
    by_cases hlt : k < N
    · have hil : k < l.length := by rw [HN.out]; exact hlt
      have hlt2 : (k : Int) < (N : Int) := by omega
      have hk0 : 0 ≤ (k : Int) := by omega
      obtain ⟨b1, o1, rfl, hb1, hc⟩ := HS.out.ints (by omega)
      have r0 := hc k hil
      obtain ⟨v, hv⟩ : ∃ v, l.getD k 0 = v := ⟨_, rfl⟩
      rw [hv] at r0
      have HV := Lib.hid hv
      clear hc hv
      by_cases he : x = v
      · have HF := Lib.hid (in_at hil (HV.out.trans he.symm))
        have hq : (x == v) = true := by simpa using he
        clear he
        go_wp2_with fail
        go_ret
        exact ⟨.inl ⟨k, rfl, HF.out⟩, rfl⟩
      · have hq : (x == v) = false := by simpa using he
        have HL2 := Lib.hid (show NoIn l x (k + 1) from fun p hp => by
          rcases Nat.lt_or_ge p k with h1 | h1
          · exact HL.out p h1
          · rw [show p = k from by omega, HV.out]; exact fun e => he e.symm)
        clear he
        go_wp2_with fail
        go_roundw
        case rel => exact ⟨k + 1, by omega, by go_num, HL2, trivial⟩
        case measure => simp [intOf]; omega
    · obtain rfl : k = N := by omega
      have HF := Lib.hid (in_no (l := l) (x := x) (by rw [HN.out]; exact HL.out))
      go_wp2_with fail
      go_ret
      exact ⟨.inr ⟨rfl, HF.out⟩, rfl⟩
set_option maxRecDepth 100000 in
theorem contains_walk (l : List Int) (N : Nat) (x : Int) (a : Option Addr) (c B : Nat) (w : World) (hN : l.length = N) (hNm : N ≤ 1000) (h : Sl w B a (i64s l)) (hB : B ≤ w.heap.size) :
    Calls Try.prog 40 #[.slice a N c, .int .i64 x] w fun e w' => e = .returned (.bool (l.contains x)) ∧ w' = w := by
  have HI := Lib.hid (index_walk l N x a c B w hN hNm h hB)
  clear hN h
  go_enter Try.func40, Try.ntmps40
  go_wp2_with fail
  refine HI.out.mono ?_
  rintro e w1 ⟨⟨k, rfl, hc⟩ | ⟨rfl, hc⟩, hw⟩
  · subst hw
    have HC := Lib.hid hc
    clear hc
    have hk0 : 0 ≤ (k : Int) := by omega
    go_wp2_with fail
    go_ret
    exact ⟨by rw [HC.out]; rfl, rfl⟩
  · subst hw
    have HC := Lib.hid hc
    clear hc
    go_wp2_with fail
    go_ret
    exact ⟨by rw [HC.out]; rfl, rfl⟩
theorem is_nil (m : Int) (w : World) : Calls Try.prog 39 #[.pointer none, .int .i64 m] w fun e w' => e = .returned (.bool false) ∧ w' = w := by
  go_enter Try.func39, Try.ntmps39
  go_wp2_with fail
  go_ret
  exact ⟨rfl, rfl⟩
theorem is_walk (m : Int) (C : Co) (g : Nat) (a : Option Addr) (ca : Nat) (b : Option Addr) (cb : Nat) (d : Option Addr) (cd : Nat) (w : World) (hM : C.M.length ≤ 1000) (h : CoW w g C a ca b cb d cd) :
    Calls Try.prog 39 #[.pointer (some ⟨g, 0, none⟩), .int .i64 m] w fun e w' => e = .returned (.bool (C.M.contains m)) ∧ w' = w := by
  have HK := Lib.hid (contains_walk C.M C.M.length m a ca w.heap.size w rfl hM (ownN_sl h.rowM) (Nat.le_refl _))
  obtain ⟨m0, m1, m2, m3, hfz⟩ := h.four
  have hg := h.lt
  clear h hfz m0 m2 m3
  generalize C.M.contains m = r at *
  go_enter Try.func39, Try.ntmps39
  go_wp2_with fail
  refine HK.out.mono ?_
  rintro e w1 ⟨rfl, hw⟩
  subst hw
  go_wp2_with fail
  go_ret
  exact ⟨rfl, rfl⟩
end Go.Proofs.Ytafibgekikjlhaa
