/- The walk of the statement SketchMerges of layer 29 (its row opens its parameters by open_bks2). -/
import Derived.Test.YtbljhmcenjmjjaaBkMerge2
import Derived.Test.YtbljhmcenjmjjaaLSketchQuantiles
namespace Go.Proofs.Ytbljhmcenjmjjaa
open Go.RowKit Vm Sk
set_option linter.unusedVariables false

theorem mgIs_len {l m D : List Bk} {E : Int} (h : MgIs l m D E) (h1 : l.length ≤ 200) (h2 : m.length ≤ 200) : D.length ≤ 2000 := by
  rcases h with ⟨_, rfl, _⟩ | ⟨_, _, _, rfl, _⟩ | ⟨_, _, _, rfl, _⟩
  · simp
  · simp
  · have key : ∀ (m l : List Bk), (mergeB l m).length ≤ l.length + m.length := by
      intro m
      induction m with
      | nil => intro l; simp [mergeB]
      | cons x t ih =>
        intro l
        have := ih (putB l x.b x.n)
        have h2 := putB_len l x.b x.n
        show (mergeB (putB l x.b x.n) t).length ≤ _
        simp only [List.length_cons]; omega
    have := key m l; omega
set_option maxRecDepth 100000 in
set_option maxHeartbeats 4000000 in
theorem sketchMerges_law (l : List Bk) (a1 : Option Addr) (c1 : Nat) (m : List Bk) (a2 : Option Addr) (c2 : Nat) (w : World) (hl1 : Sl w w.heap.size a1 (bkCells l)) (hi1 : ∀ r ∈ l, I64 r.b ∧ I64 r.n) (hc1 : (a1 = none → c1 = 0) ∧ l.length ≤ c1) (hl2 : Sl w w.heap.size a2 (bkCells m)) (hi2 : ∀ r ∈ m, I64 r.b ∧ I64 r.n) (hc2 : (a2 = none → c2 = 0) ∧ m.length ≤ c2) :
    Calls Try.prog 6 #[.slice a1 l.length c1, .slice a2 m.length c2] w fun e w' => e = .returned (.bool true) ∧ Below w.heap.size w w' := by
  obtain ⟨N, hN⟩ : ∃ N, l.length = N := ⟨_, rfl⟩
  obtain ⟨M, hM⟩ : ∃ M, m.length = M := ⟨_, rfl⟩
  rw [hN, hM]
  rw [hN] at hc1
  rw [hM] at hc2
  by_cases hz : 200 < N
  · have HL := Lib.hid (fun w => light29_walk N a1 c1 false w (.inr ⟨hz, rfl⟩))
    go_enter Try.func6, Try.ntmps6
    go_wp2_with fail
    refine (HL.out _).mono ?_
    rintro e w1 ⟨rfl, rfl⟩
    go_wp2_with fail
    refine (awake29_walk _).mono ?_
    rintro x wz ⟨rfl, gz⟩
    go_wp2_with fail
    go_ret
    exact ⟨rfl, gdrew (Below.refl _ _) gz⟩
  have HL := Lib.hid (fun w => light29_walk N a1 c1 true w (.inl ⟨by omega, rfl⟩))
  by_cases hz2 : 200 < M
  · have HL2 := Lib.hid (fun w => light29_walk M a2 c2 false w (.inr ⟨hz2, rfl⟩))
    go_enter Try.func6, Try.ntmps6
    go_wp2_with fail
    refine (HL.out _).mono ?_
    rintro e w1 ⟨rfl, rfl⟩
    go_wp2_with fail
    refine (HL2.out _).mono ?_
    rintro e w1 ⟨rfl, rfl⟩
    go_wp2_with fail
    refine (awake29_walk _).mono ?_
    rintro x wz ⟨rfl, gz⟩
    go_wp2_with fail
    go_ret
    exact ⟨rfl, gdrew (Below.refl _ _) gz⟩
  have HL2 := Lib.hid (fun w => light29_walk M a2 c2 true w (.inl ⟨by omega, rfl⟩))
  obtain ⟨D, E, hD⟩ := mgIs_ex l m
  have hDl := mgIs_len hD (by omega) (by omega)
  have H1 := Lib.hid (fun w h1 h2 => bmerge_walk l m N M a1 a2 c1 c2 w.heap.size w D E hN hM (by omega) (by omega) hD h1 h2 (Nat.le_refl _))
  have H2 := Lib.hid (fun w h1 h2 => rmerge_walk l m N M a1 a2 c1 c2 w.heap.size w D E hN hM (by omega) (by omega) hD h1 h2 (Nat.le_refl _) hc1)
  have H3 := Lib.hid (fun w h1 h2 => bmerge_walk m l M N a2 a1 c2 c1 w.heap.size w D E hM hN (by omega) (by omega) (mgIs_comm hD) h1 h2 (Nat.le_refl _))
  have S1 := Lib.hid (fun a1 a2 c1 c2 w h1 h2 => same29_walk D D.length a1 a2 c1 c2 w.heap.size w rfl (by omega) h1 h2 (Nat.le_refl _))
  unfold MgPost at H1 H2 H3
  clear hD hDl
  go_enter Try.func6, Try.ntmps6
  go_wp2_with fail
  refine (HL.out _).mono ?_
  rintro e w1 ⟨rfl, rfl⟩
  go_wp2_with fail
  refine (HL2.out _).mono ?_
  rintro e w1 ⟨rfl, rfl⟩
  go_wp2_with fail
  refine (H1.out _ hl1 hl2).mono ?_
  rintro e w2 ⟨a3, c3, rfl, s3, g2⟩
  have p1 := (hl1.below g2 (Nat.le_refl _)).grow g2.size
  have p2 := (hl2.below g2 (Nat.le_refl _)).grow g2.size
  clear hl1 hl2
  go_wp2_with fail
  refine (H2.out _ p1 p2).mono ?_
  rintro e w3 ⟨a4, c4, rfl, s4, g3⟩
  have p1 := (p1.below g3 (Nat.le_refl _)).grow g3.size
  have p2 := (p2.below g3 (Nat.le_refl _)).grow g3.size
  have s3 := (s3.below g3 (Nat.le_refl _)).grow g3.size
  have g3 := gtrans g2 g3
  go_wp2_with fail
  refine (H3.out _ p2 p1).mono ?_
  rintro e w4 ⟨a5, c5, rfl, s5, g4⟩
  have s3 := (s3.below g4 (Nat.le_refl _)).grow g4.size
  have s4 := (s4.below g4 (Nat.le_refl _)).grow g4.size
  have g4 := gtrans g3 g4
  clear p1 p2 g2 g3
  go_wp2_with fail
  refine (S1.out _ _ _ _ _ s3 s4).mono ?_
  rintro e w5 ⟨rfl, g5⟩
  have s3 := (s3.below g5 (Nat.le_refl _)).grow g5.size
  have s5 := (s5.below g5 (Nat.le_refl _)).grow g5.size
  have g5 := gtrans g4 g5
  go_wp2_with fail
  refine (S1.out _ _ _ _ _ s3 s5).mono ?_
  rintro e w6 ⟨rfl, g6⟩
  have g6 := gtrans g5 g6
  go_wp2_with fail
  refine (awake29_walk _).mono ?_
  rintro x wz ⟨rfl, gz⟩
  go_wp2_with fail
  go_ret
  exact ⟨rfl, gdrew g6 gz⟩
end Go.Proofs.Ytbljhmcenjmjjaa
