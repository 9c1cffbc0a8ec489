/- The walk of the statement DedupLooks of layer 7. -/
import Derived.Test.YtfjnmjibifefgaaDdRows
import Derived.Test.YtfjnmjibifefgaaPrOpen
import Derived.Test.YtfjnmjibifefgaaBatOpen
namespace Go.Proofs.Ytfjnmjibifefgaa
open Go.RowKit Vm Bm
set_option linter.unusedVariables false
set_option linter.unusedSimpArgs false

set_option maxRecDepth 100000 in
set_option maxHeartbeats 4000000 in
theorem dedupLooks_law (l : List Pr) (a : Option Addr) (c : Nat) (b : Bat) (ab : Option Addr) (cb : Nat) (w : World) (hl : Sl w w.heap.size a (prCells l)) (hi : ∀ r ∈ l, PrI r) (hc : (a = none → c = 0) ∧ l.length ≤ c ∧ c ≤ maxLen)
    (hw : BatWf b) (hr : Sl w w.heap.size ab (recCells b.l)) :
    Calls Try.prog 3 #[.slice a l.length c, bv b ab cb] w fun e w' => e = .returned (.bool true) ∧ Below w.heap.size w w' := by
  obtain ⟨N, hN⟩ : ∃ N, l.length = N := ⟨_, rfl⟩
  rw [hN] at hc ⊢
  have hal := balloc w (.cells (bvc b ab cb) 25)
  have hW := Whole.new w 25 (bvc b ab cb)
  have r0 := (hr.below hal (Nat.le_refl _)).grow hal.size
  have l0 := (hl.below hal (Nat.le_refl _)).grow hal.size
  obtain ⟨x0, x1, x2, x3, x4, hg⟩ := hW.five
  by_cases hL : LightB b
  · have HL := Lib.hid (light_walk b b.l.length ab cb _ _ true rfl ⟨fun _ => hL, fun _ => rfl⟩ r0 (Nat.le_refl _))
    obtain ⟨M, hM⟩ := rowsIs_ex N
    have HR := Lib.hid (fun w => rows7_walk N M a c w hM hc.2.1 hc.2.2 hc.1)
    have hM30 : M ≤ 30 := by rcases hM with ⟨h, rfl⟩ | ⟨_, rfl⟩ <;> omega
    have hMl : (l.take M).length = M := by rw [List.length_take, hN]; rcases hM with ⟨h, rfl⟩ | ⟨_, rfl⟩ <;> omega
    obtain ⟨r, EE, hP⟩ := rowP_ex (l.take M) b.pid
    have hI := rowP_i hP (fun r hr => hi r (List.mem_of_mem_take hr))
    obtain ⟨n, d, E, hD⟩ := dlIs_ex b r
    have hbl : b.l.length ≤ maxLen := by have := hL.1; unfold maxLen; omega
    have K1 := Lib.hid (fun w h1 h2 => dlook_walk (l.take M) M a c w.heap.size b ab cb w r n d E EE hMl (by omega) hbl hw hI hP hD h1 h2 (Nat.le_refl _))
    have K2 := Lib.hid (fun w h1 h2 => rlook_walk (l.take M) M a c w.heap.size b ab cb w r n d E EE hMl (by omega) hbl hw hI hP hD h1 h2 (Nat.le_refl _))
    unfold LkPost at K1 K2
    have m0 := sl_pr_take l0 M
    clear hL hM hP hI hD hl hr l0 hN hc
    unfold bv
    go_enter Try.func3, Try.ntmps3
    go_wp2_with fail
    refine HL.out.mono ?_
    rintro e w1 ⟨rfl, g1⟩
    have W1 := hW.keep g1
    have r1 := (r0.below g1 (Nat.le_refl _)).grow g1.size
    have m1 := (m0.below g1 (Nat.le_refl _)).grow g1.size
    have b1 := gtrans hal g1
    clear x0 x1 x2 x3 x4
    obtain ⟨x0, x1, x2, x3, x4, hg1⟩ := W1.five
    go_wp2_with fail
    refine (HR.out _).mono ?_
    rintro e w1' ⟨rfl, rfl⟩
    go_wp2_with fail
    refine (K1.out _ m1 r1).mono ?_
    rintro e w2 ⟨rfl, g2⟩
    have W2 := W1.keep g2
    have r2 := (r1.below g2 (Nat.le_refl _)).grow g2.size
    have m2 := (m1.below g2 (Nat.le_refl _)).grow g2.size
    have b2 := gtrans b1 g2
    clear x0 x1 x2 x3 x4
    obtain ⟨x0, x1, x2, x3, x4, hg2⟩ := W2.five
    go_wp2_with fail
    refine (K2.out _ m2 r2).mono ?_
    rintro e w3 ⟨rfl, g3⟩
    have b3 := gtrans b2 g3
    go_wp2_with fail
    refine (awake7_walk _).mono ?_
    rintro e w4 ⟨rfl, g4⟩
    go_wp2_with fail
    go_ret
    exact ⟨rfl, gtrans b3 g4⟩
  · have HL := Lib.hid (light_walk b b.l.length ab cb _ _ false rfl ⟨fun h => (by cases h), fun h => absurd h hL⟩ r0 (Nat.le_refl _))
    clear hL hl hr l0 hN hc
    unfold bv
    go_enter Try.func3, Try.ntmps3
    go_wp2_with fail
    refine HL.out.mono ?_
    rintro e w1 ⟨rfl, g1⟩
    have b1 := gtrans hal g1
    go_wp2_with fail
    refine (awake7_walk _).mono ?_
    rintro e w4 ⟨rfl, g4⟩
    go_wp2_with fail
    go_ret
    exact ⟨rfl, gtrans b1 g4⟩
end Go.Proofs.Ytfjnmjibifefgaa
