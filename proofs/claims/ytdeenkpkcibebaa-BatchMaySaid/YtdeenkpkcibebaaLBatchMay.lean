/- The walk of the statement BatchMay of layer 6. -/
import Derived.Test.YtdeenkpkcibebaaBatLawKit
namespace Go.Proofs.Ytdeenkpkcibebaa
open Go.RowKit Vm Bm
set_option linter.unusedVariables false

set_option maxRecDepth 100000 in
set_option maxHeartbeats 4000000 in
theorem batchMay_law (b : Bat) (a : Option Addr) (c : Nat) (w : World) (hw : BatWf b) (hl : Sl w w.heap.size a (recCells b.l)) :
    Calls Try.prog 3 #[bv b a c] w fun e w' => e = .returned (.bool true) ∧ Below w.heap.size w w' := by
  have B0 := below_alloc w (.cells (bvc b a c) 24)
  have R0 := Whole.new w 24 (bvc b a c)
  have L0 := hl.below B0 (Nat.le_refl _)
  have HM : ∃ (m : Int), (b.l.length = 0 ∧ m = 1) ∨ (0 < b.l.length ∧ m = b.l.length) := by
    by_cases h0 : b.l.length = 0
    · exact ⟨1, .inl ⟨h0, rfl⟩⟩
    · exact ⟨_, .inr ⟨by omega, rfl⟩⟩
  obtain ⟨m, hm⟩ := HM
  have N1 := fun w => blen_walk b b.l.length a c w m rfl hm
  have N2 := fun w => rblen_walk b b.l.length a c w m rfl hm
  have hcase : (¬ LightB b) ∨ (LightB b ∧ ∃ (K : Int) (d : Bool), ((K = 0 ∧ d = true) ∨ (K = 1 ∧ d = false)) ∧
      (∀ B w, Sl w B a (recCells b.l) → B ≤ w.heap.size → Calls Try.prog 18 #[bv b a c] w fun e w' => e = .returned (.int .i64 K) ∧ Below w.heap.size w w') ∧
      (∀ B w, Sl w B a (recCells b.l) → B ≤ w.heap.size → Calls Try.prog 19 #[bv b a c] w fun e w' => e = .returned (.bool d) ∧ Below w.heap.size w w')) := by
    by_cases hg : LightB b
    · refine .inr ⟨hg, ?_⟩
      by_cases hy : MayB b
      · exact ⟨0, true, .inl ⟨rfl, rfl⟩, fun B w hl hB => bcheck_walk b a c B w 0 (.inl ⟨hy, rfl⟩) hl hB, fun B w hl hB => rmay_walk b a c B w true ⟨fun _ => hy, fun _ => rfl⟩ hl hB⟩
      · exact ⟨1, false, .inr ⟨rfl, rfl⟩, fun B w hl hB => bcheck_walk b a c B w 1 (.inr ⟨hy, rfl⟩) hl hB, fun B w hl hB => rmay_walk b a c B w false ⟨fun h => (by cases h), fun h => absurd h hy⟩ hl hB⟩
    · exact .inl hg
  obtain ⟨c0, c1, c2, c3, c4, hgl, _⟩ := fv_of R0
  rcases hcase with hg | ⟨hg, K, d, hKd, Q1, Q2⟩
  · have KL := Lib.hid (fun w hl hB => light_walk b b.l.length a c w.heap.size w false rfl ⟨fun h => (by cases h), fun h => absurd h hg⟩ hl hB)
    obtain ⟨k, p, e, q, l⟩ := b
    simp only [bv, bvc] at *
    clear N1 N2 hm
    go_enter Try.func3, Try.ntmps3
    go_wp2_with fail
    refine (KL.out _ (L0.grow B0.size) (Nat.le_refl _)).mono ?_
    rintro x w1 ⟨rfl, g1⟩
    go_wp2_with fail
    refine (awake6_walk _).mono ?_
    rintro x w2 ⟨rfl, g2⟩
    go_wp2_with fail
    go_ret
    exact ⟨rfl, B0.trans ((gtrans g1 g2).mono B0.size)⟩
  · have KL := Lib.hid (fun w hl hB => light_walk b b.l.length a c w.heap.size w true rfl ⟨fun _ => hg, fun _ => rfl⟩ hl hB)
    have HR0 := Lib.hid R0
    obtain ⟨k, p, e, q, l⟩ := b
    simp only [bv, bvc] at *
    have Q1 := Lib.hid Q1
    have Q2 := Lib.hid Q2
    have N1 := Lib.hid N1
    have N2 := Lib.hid N2
    clear hm
    go_enter Try.func3, Try.ntmps3
    go_wp2_with fail
    refine (KL.out _ (L0.grow B0.size) (Nat.le_refl _)).mono ?_
    rintro x w1 ⟨rfl, g1⟩
    have R1 := HR0.out.keep g1
    have B1 := B0.trans (g1.mono B0.size)
    have L1 := (L0.grow B0.size).below g1 (Nat.le_refl _)
    have hz1 := g1.size
    clear g1 c0 c1 c2 c3 c4 hgl R0 L0 B0
    have hS0 := fv_drew (fv_of (b := ⟨k, p, e, q, l⟩) R1)
    unfold Fv at hS0
    simp only at hS0
    obtain ⟨c0, c1, c2, c3, c4, hgl, _⟩ := fv_of (b := ⟨k, p, e, q, l⟩) R1
    simp only at c0 c1 c2 c3 c4
    go_wp2_with fail
    rcases hKd with ⟨rfl, rfl⟩ | ⟨rfl, rfl⟩
    all_goals
      go_region_held3 (fun w' => w'.cell? ⟨w.heap.size, 0, none⟩ = some (.int .i64 k) ∧ w'.cell? ⟨w.heap.size, 1, none⟩ = some (.int .i64 p) ∧ w'.cell? ⟨w.heap.size, 2, none⟩ = some (.int .i64 e) ∧ w'.cell? ⟨w.heap.size, 3, none⟩ = some (.int .i64 q) ∧ w'.cell? ⟨w.heap.size, 4, none⟩ = some (.slice a l.length c) ∧ w.heap.size < w'.heap.size ∧ Below w1.heap.size w1 w')
        (with_reducible assumption)
        (first
          | (go_at_call 18; refine (Q1.out _ _ (L1.below (fvb (g := w.heap.size) (b := ⟨k, p, e, q, l⟩) (a := a) (c := c) (by with_reducible assumption)) hz1) (Nat.le_trans hz1 (fvb (g := w.heap.size) (b := ⟨k, p, e, q, l⟩) (a := a) (c := c) (by with_reducible assumption)).size)).mono ?_; rintro x w3 ⟨rfl, h3⟩; have y : Fv w1 w3 w.heap.size ⟨k, p, e, q, l⟩ a c := fv_keep (by with_reducible assumption) h3; unfold Fv at y; simp only at y)
          | (go_at_call 19; refine (Q2.out _ _ (L1.below (fvb (g := w.heap.size) (b := ⟨k, p, e, q, l⟩) (a := a) (c := c) (by with_reducible assumption)) hz1) (Nat.le_trans hz1 (fvb (g := w.heap.size) (b := ⟨k, p, e, q, l⟩) (a := a) (c := c) (by with_reducible assumption)).size)).mono ?_; rintro x w3 ⟨rfl, h3⟩; have y : Fv w1 w3 w.heap.size ⟨k, p, e, q, l⟩ a c := fv_keep (by with_reducible assumption) h3; unfold Fv at y; simp only at y)
          | (go_at_call 20; refine (N1.out _).mono ?_; rintro x w3 ⟨rfl, h3⟩; have y : Fv w1 w3 w.heap.size ⟨k, p, e, q, l⟩ a c := fv_keep (by with_reducible assumption) h3; unfold Fv at y; simp only at y)
          | (go_at_call 21; refine (N2.out _).mono ?_; rintro x w3 ⟨rfl, h3⟩; have y : Fv w1 w3 w.heap.size ⟨k, p, e, q, l⟩ a c := fv_keep (by with_reducible assumption) h3; unfold Fv at y; simp only at y)
          | (go_at_call 17; refine (awake6_walk _).mono ?_; rintro x w3 ⟨rfl, h3⟩; have y : Fv w1 w3 w.heap.size ⟨k, p, e, q, l⟩ a c := fv_keep (by with_reducible assumption) h3; unfold Fv at y; simp only at y))
      all_goals
        go_wp2_with fail
        go_ret
        exact ⟨rfl, B1.trans (y.2.2.2.2.2.2.mono B1.size)⟩
end Go.Proofs.Ytdeenkpkcibebaa
