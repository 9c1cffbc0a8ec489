/- The walk of the statement SketchQuantiles of layer 29. -/
import Derived.Test.YtbljhmcenjmjjaaRefBkQuant
import Derived.Test.YtbljhmcenjmjjaaBkOpen
import Derived.Test.YtbljhmcenjmjjaaSkEnds
namespace Go.Proofs.Ytbljhmcenjmjjaa
open Go.RowKit Vm Sk
set_option linter.unusedVariables false

theorem quIs_ex (l : List Bk) (part of : Int) : ∃ Q E, QuIs l part of Q E := by
  by_cases hg : GoodQ l part of
  · by_cases hl : l = []
    · exact ⟨0, 3, .inr (.inl ⟨hg, hl, rfl, rfl⟩)⟩
    · exact ⟨_, 0, .inr (.inr ⟨hg, hl, rfl, rfl⟩)⟩
  · exact ⟨0, 1, .inl ⟨hg, rfl, rfl⟩⟩
set_option maxRecDepth 100000 in
theorem light29_walk (N : Nat) (a : Option Addr) (c : Nat) (d : Bool) (w : World) (hd : (N ≤ 200 ∧ d = true) ∨ (200 < N ∧ d = false)) :
    Calls Try.prog 16 #[.slice a N c] w fun e w' => e = .returned (.bool d) ∧ w' = w := by
  rcases hd with ⟨h, rfl⟩ | ⟨h, rfl⟩
  · have h1 : (N : Int) ≤ 200 := by omega
    go_enter Try.func16, Try.ntmps16
    go_wp2_with fail
    go_ret
    first | exact ⟨rfl, rfl⟩ | exact ⟨by simp [h], rfl⟩
  · have h1 : ¬ (N : Int) ≤ 200 := by omega
    have h2 : ¬ N ≤ 200 := by omega
    go_enter Try.func16, Try.ntmps16
    go_wp2_with fail
    go_ret
    first | exact ⟨rfl, rfl⟩ | exact ⟨by simp [h2], rfl⟩

set_option maxRecDepth 100000 in
set_option maxHeartbeats 2000000 in
theorem sketchQuantiles_law (l : List Bk) (a : Option Addr) (c : Nat) (part of : Int) (w : World) (hl : Sl w w.heap.size a (bkCells l)) (hi : ∀ r ∈ l, I64 r.b ∧ I64 r.n) (hp : (Lit.int .i64 part).wf = true) (ho : (Lit.int .i64 of).wf = true) :
    Calls Try.prog 8 #[.slice a l.length c, .int .i64 part, .int .i64 of] w fun e w' => e = .returned (.bool true) ∧ Below w.heap.size w w' := by
  obtain ⟨N, hN⟩ : ∃ N, l.length = N := ⟨_, rfl⟩
  rw [hN]
  by_cases hz : 200 < N
  · have HL := Lib.hid (fun w => light29_walk N a c false w (.inr ⟨hz, rfl⟩))
    go_enter Try.func8, Try.ntmps8
    go_wp2_with fail
    refine (HL.out _).mono ?_
    rintro e w1 ⟨rfl, rfl⟩
    go_wp2_with fail
    refine (awake29_walk _).mono ?_
    rintro e w2 ⟨rfl, g2⟩
    go_wp2_with fail
    go_ret
    exact ⟨rfl, g2.below _⟩
  · have HL := Lib.hid (fun w => light29_walk N a c true w (.inl ⟨by omega, rfl⟩))
    obtain ⟨Q, E, hQ⟩ := quIs_ex l part of
    have H1 := Lib.hid (fun w h => bk_quant_walk l N a c w.heap.size part of Q E w hN (by omega) hQ h (Nat.le_refl _))
    have H2 := Lib.hid (fun w h => rbk_quant_walk l N a c w.heap.size part of Q E w hN (by omega) hQ h (Nat.le_refl _))
    clear hQ
    go_enter Try.func8, Try.ntmps8
    go_wp2_with fail
    refine (HL.out _).mono ?_
    rintro e w1 ⟨rfl, rfl⟩
    go_wp2_with fail
    refine (H1.out _ hl).mono ?_
    rintro e w2 ⟨rfl, g2⟩
    have hl2 := (hl.below g2 (Nat.le_refl _)).grow g2.size
    go_wp2_with fail
    refine (H2.out _ hl2).mono ?_
    rintro e w3 ⟨rfl, g3⟩
    have g3 := gtrans g2 g3
    go_wp2_with fail
    refine (awake29_walk _).mono ?_
    rintro e w4 ⟨rfl, g4⟩
    go_wp2_with fail
    go_ret
    exact ⟨rfl, gdrew g3 g4⟩
end Go.Proofs.Ytbljhmcenjmjjaa
