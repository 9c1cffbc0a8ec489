/- The walk of the statement DedupNotes of layer 7. -/
import Derived.Test.YtfjnmjibifefgaaDdRows
import Derived.Test.YtfjnmjibifefgaaPrOpen
import Derived.Test.YtfjnmjibifefgaaBatOpen
namespace Go.Proofs.Ytfjnmjibifefgaa
open Go.RowKit Vm Bm
set_option linter.unusedVariables false
set_option linter.unusedSimpArgs false

theorem insIs_len {l : List Pr} {x : Pr} {D : List Pr} (h : InsIs l x D) : D.length = l.length + 1 := by
  rcases h with ⟨k, hk, _, _, rfl⟩ | ⟨_, rfl⟩
  · exact ins_pr_len _ _ _ (by omega)
  · simp
theorem ntIs_len {b : Bat} {x : Pr} {m : Bool} {l D : List Pr} (h : NtIs b x m l D) : D.length ≤ l.length + 1 := by
  rcases h with ⟨_, rfl⟩ | ⟨_, _, h⟩ | ⟨_, k, _, _, _, ⟨_, _, rfl⟩ | ⟨_, rfl⟩⟩
  · omega
  · rw [insIs_len h]; omega
  · omega
  · simp
set_option maxRecDepth 100000 in
set_option maxHeartbeats 4000000 in
theorem dedupNotes_law (l : List Pr) (a : Option Addr) (c : Nat) (b : Bat) (ab : Option Addr) (cb : Nat) (o : Int) (w : World) (hl : Sl w w.heap.size a (prCells l)) (hi : ∀ r ∈ l, PrI r) (hc : (a = none → c = 0) ∧ l.length ≤ c ∧ c ≤ maxLen)
    (hw : BatWf b) (hr : Sl w w.heap.size ab (recCells b.l)) (ho : (Lit.int .i64 o).wf = true) :
    Calls Try.prog 4 #[.slice a l.length c, bv b ab cb, .int .i64 o] w fun e w' => e = .returned (.bool true) ∧ Below w.heap.size w w' := by
  obtain ⟨i0, hi0, hz0, hz1, hz2⟩ := info_parts info_pr
  obtain ⟨N, hN⟩ : ∃ N, l.length = N := ⟨_, rfl⟩
  rw [hN] at hc ⊢
  have hal := balloc w (.cells (bvc b ab cb) 25)
  have hW := Whole.new w 25 (bvc b ab cb)
  have r0 := (hr.below hal (Nat.le_refl _)).grow hal.size
  have l0 := (hl.below hal (Nat.le_refl _)).grow hal.size
  obtain ⟨x0, x1, x2, x3, x4, hg⟩ := hW.five
  by_cases hL : LightB b
  · have HL := Lib.hid (light_walk b b.l.length ab cb _ _ true rfl ⟨fun _ => hL, fun _ => rfl⟩ r0 (Nat.le_refl _))
    obtain ⟨M, hM⟩ := rowsIs_ex N
    have HR := Lib.hid (fun w => rows7_walk N M a c w hM hc.2.1 hc.2.2 hc.1)
    have hM30 : M ≤ 30 := by rcases hM with ⟨h, rfl⟩ | ⟨_, rfl⟩ <;> omega
    have hMl : (l.take M).length = M := by rw [List.length_take, hN]; rcases hM with ⟨h, rfl⟩ | ⟨_, rfl⟩ <;> omega
    have hnil := Lib.hid (show a = none → M = 0 ∧ c = 0 from fun h => by
      have h1 := hc.1 h
      have h2 := hc.2.1
      rcases hM with ⟨h3, rfl⟩ | ⟨h3, rfl⟩ <;> omega)
    obtain ⟨x, m, hX⟩ := rowIs_ex b o
    obtain ⟨D, hD⟩ := ntIs_ex b x m (l.take M)
    have hDl : D.length ≤ 31 := by have := ntIs_len hD; omega
    have K1 := Lib.hid (fun w h1 => dnote_walk (l.take M) M a c w.heap.size b ab cb o w x m D hMl (by omega) hX hD h1 (Nat.le_refl _))
    have K2 := Lib.hid (fun w a c h1 => rnote_walk (l.take M) M a c w.heap.size b ab cb o w x m D hMl (by omega) hX hD h1 (Nat.le_refl _))
    have S1 := Lib.hid (fun w a1 a2 c1 c2 h1 h2 => same_pr D D.length a1 a2 c1 c2 w.heap.size w rfl (by omega) h1 h2 (Nat.le_refl _))
    have S2 := Lib.hid (fun w a1 a2 c1 c2 h1 h2 => same_pr (l.take M) M a1 a2 c1 c2 w.heap.size w hMl (by omega) h1 h2 (Nat.le_refl _))
    unfold OwnPost at K1
    unfold RpPost at K2
    have m0 := sl_pr_take l0 M
    have HMl := Lib.hid hMl
    clear hL hM hX hD hl hr l0 hN hc hMl
    unfold bv
    go_enter Try.func4, Try.ntmps4
    go_wp2_with fail
    refine HL.out.mono ?_
    rintro e w1 ⟨rfl, g1⟩
    have W1 := hW.keep g1
    have r1 := (r0.below g1 (Nat.le_refl _)).grow g1.size
    have m1 := (m0.below g1 (Nat.le_refl _)).grow g1.size
    have b1 := gtrans hal g1
    clear x0 x1 x2 x3 x4
    obtain ⟨x0, x1, x2, x3, x4, hg1⟩ := W1.five
    go_wp2_with fail
    refine (HR.out _).mono ?_
    rintro e w1' ⟨rfl, rfl⟩
    have own0 : w1'.ownsRow w1'.heap.size 44 5 (.slice none 0 0) 0 [] := World.ownsRow_nil _ _ _ _
    go_wp2_with (at_builtin; refine wp_app rfl _ _ 22 rfl w1'.heap.size 44 i0 (.agg #[.int .i64 0, .int .i64 0, .int .i64 0, .int .i64 0, .int .i64 0]) 5 40 Try.underlying22 hi0 hz0 hz1 hz2 rfl (by decide) _ _ _ rfl own0 _ _ _ rfl (prCells (l.take M)) _ w1' ?c1 m1 hnil.out (prCells_one _) ?c2 ?c3 (Nat.le_refl _) (Below.refl _ _) ?_)
    case c1 => rw [prCells_length, HMl.out]
    case c2 => unfold maxLen; omega
    case c3 => omega
    intro ak ck w2 ownk g2
    have W2 := W1.keep g2
    have r2 := (r1.below g2 (Nat.le_refl _)).grow g2.size
    have m2 := (m1.below g2 (Nat.le_refl _)).grow g2.size
    have k2 := ownN_sl ownk
    have b2 := gtrans b1 g2
    clear x0 x1 x2 x3 x4 own0
    obtain ⟨x0, x1, x2, x3, x4, hg2⟩ := W2.five
    go_wp2_with fail
    refine (K1.out _ m2).mono ?_
    rintro e w3 ⟨a3, c3, rfl, own3, g3⟩
    have W3 := W2.keep g3
    have m3 := (m2.below g3 (Nat.le_refl _)).grow g3.size
    have k3 := (k2.below g3 (Nat.le_refl _)).grow g3.size
    have d3 := ownN_sl own3
    have b3 := gtrans b2 g3
    clear x0 x1 x2 x3 x4 own3 ownk
    obtain ⟨x0, x1, x2, x3, x4, hg3⟩ := W3.five
    go_wp2_with fail
    refine (K2.out _ _ _ k3).mono ?_
    rintro e w4 ⟨a4, c4, rfl, e4, g4⟩
    have m4 := (m3.below g4 (Nat.le_refl _)).grow g4.size
    have k4 := (k3.below g4 (Nat.le_refl _)).grow g4.size
    have d4 := (d3.below g4 (Nat.le_refl _)).grow g4.size
    have b4 := gtrans b3 g4
    go_wp2_with fail
    refine (S1.out _ _ _ _ _ d4 e4).mono ?_
    rintro e w5 ⟨rfl, g5⟩
    have m5 := (m4.below g5 (Nat.le_refl _)).grow g5.size
    have k5 := (k4.below g5 (Nat.le_refl _)).grow g5.size
    have b5 := gtrans b4 g5
    go_wp2_with fail
    refine (S2.out _ _ _ _ _ m5 k5).mono ?_
    rintro e w6 ⟨rfl, g6⟩
    have b6 := gtrans b5 g6
    go_wp2_with fail
    refine (awake7_walk _).mono ?_
    rintro e w7 ⟨rfl, g7⟩
    go_wp2_with fail
    go_ret
    exact ⟨rfl, gtrans b6 g7⟩
  · have HL := Lib.hid (light_walk b b.l.length ab cb _ _ false rfl ⟨fun h => (by cases h), fun h => absurd h hL⟩ r0 (Nat.le_refl _))
    clear hL hl hr l0 hN hc
    unfold bv
    go_enter Try.func4, Try.ntmps4
    go_wp2_with fail
    refine HL.out.mono ?_
    rintro e w1 ⟨rfl, g1⟩
    have b1 := gtrans hal g1
    go_wp2_with fail
    refine (awake7_walk _).mono ?_
    rintro e w4 ⟨rfl, g4⟩
    go_wp2_with fail
    go_ret
    exact ⟨rfl, gtrans b1 g4⟩
end Go.Proofs.Ytfjnmjibifefgaa
