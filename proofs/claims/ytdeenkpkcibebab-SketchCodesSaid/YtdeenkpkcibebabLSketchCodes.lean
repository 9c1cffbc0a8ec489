/- The walk of the statement SketchCodes of layer 29. -/
import Derived.Test.YtdeenkpkcibebabRefBkDec
import Derived.Test.YtdeenkpkcibebabRefBkEnc
import Derived.Test.YtdeenkpkcibebabLSketchQuantiles
namespace Go.Proofs.Ytdeenkpkcibebab
open Go.RowKit Vm Sk
set_option linter.unusedVariables false

theorem skL_size {l : List Bk} (h : MayS l) (hl : l.length ≤ 1920) : (str (skL l)).size ≤ 140737488355328 := by
  have h1 := encD_len l 0 h.rng ⟨by omega, by omega⟩
  have h2 := putL_len (n := (l.length : Int)) ⟨by omega, by omega⟩
  rw [str_size]; unfold skL; rw [List.length_append]; omega
theorem isS_of {l : List Bk} (h : MayS l) (hl : l.length ≤ 1920) : IsS (str (skL l)).data.toList (some l) := .inl ⟨l, rfl, h, hl, str_toList _⟩
/-- What a decoder leaves: D, E. -/
def SDPost (w : World) (D : List Bk) (E : Int) (e : Ending) (w' : World) : Prop :=
  ∃ a c, e = .returned (.tuple #[.slice a D.length c, .int .i64 E]) ∧ Sl w' w'.heap.size a (bkCells D) ∧ Below w.heap.size w w'
theorem spost_of {w w' : World} {o : Option (List Bk)} {D : List Bk} {E : Int} {e : Ending} (h : SPost w o e w') (hD : (o = none ∧ D = [] ∧ E = 2) ∨ (o = some D ∧ E = 0)) : SDPost w D E e w' := by
  obtain ⟨hb, ⟨h1, he⟩ | ⟨b, a, c, h1, he, hs⟩⟩ := h
  · rcases hD with ⟨_, rfl, rfl⟩ | ⟨h2, _⟩
    · exact ⟨none, 0, he, .inl rfl, hb⟩
    · rw [h1] at h2; cases h2
  · rcases hD with ⟨h2, _⟩ | ⟨h2, rfl⟩
    · rw [h1] at h2; cases h2
    · rw [h1] at h2; cases h2; exact ⟨a, c, he, hs, hb⟩

set_option maxRecDepth 100000 in
set_option maxHeartbeats 4000000 in
theorem sketchCodes_law (l : List Bk) (a : Option Addr) (c : Nat) (t : ByteArray) (w : World) (hl : Sl w w.heap.size a (bkCells l)) (hi : ∀ r ∈ l, I64 r.b ∧ I64 r.n) (ht : t.size ≤ 140737488351232) :
    Calls Try.prog 10 #[.slice a l.length c, .string t] w fun e w' => e = .returned (.bool true) ∧ Below w.heap.size w w' := by
  obtain ⟨N, hN⟩ : ∃ N, l.length = N := ⟨_, rfl⟩
  rw [hN]
  by_cases hz : 200 < N
  · have HL := Lib.hid (fun w => light29_walk N a c false w (.inr ⟨hz, rfl⟩))
    go_enter Try.func10, Try.ntmps10
    go_wp2_with fail
    refine (HL.out _).mono ?_
    rintro e w1 ⟨rfl, rfl⟩
    go_wp2_with fail
    refine (awake29_walk _).mono ?_
    rintro x wz ⟨rfl, gz⟩
    go_wp2_with fail
    go_ret
    exact ⟨rfl, gdrew (Below.refl _ _) gz⟩
  have HL := Lib.hid (fun w => light29_walk N a c true w (.inl ⟨by omega, rfl⟩))
  by_cases hz2 : 3000 < (t.size : Int)
  · go_enter Try.func10, Try.ntmps10
    go_wp2_with fail
    refine (HL.out _).mono ?_
    rintro e w1 ⟨rfl, rfl⟩
    go_wp2_with fail
    refine (awake29_walk _).mono ?_
    rintro x wz ⟨rfl, gz⟩
    go_wp2_with fail
    go_ret
    exact ⟨rfl, gdrew (Below.refl _ _) gz⟩
  have hlen : l.length ≤ 1920 := by omega
  obtain ⟨o, ho⟩ := isS_ex t.data.toList
  have hD : ∃ (D : List Bk) (E : Int), ((o = none ∧ D = [] ∧ E = 2) ∨ (o = some D ∧ E = 0)) := by
    cases o with
    | none => exact ⟨[], 2, .inl ⟨rfl, rfl, rfl⟩⟩
    | some D => exact ⟨D, 0, .inr ⟨rfl, rfl⟩⟩
  obtain ⟨D, E, hD⟩ := hD
  have D1 := fun w => (bkdec_walk t w o ho (by omega)).mono fun e w' hp => spost_of hp hD
  have D2 := fun w => (rbkdec_walk t w o ho (by omega)).mono fun e w' hp => spost_of hp hD
  have hDE : (E = 2 ∧ D = []) ∨ (E = 0 ∧ D.length ≤ 1920 ∧ ∀ a c B w, Sl w B a (bkCells D) → B ≤ w.heap.size → Calls Try.prog 35 #[.slice a D.length c] w fun e w' => e = .returned (.tuple #[.string t, .int .i64 0]) ∧ Below w.heap.size w w') := by
    rcases hD with ⟨_, h1, h2⟩ | ⟨h1, h2⟩
    · exact .inl ⟨h2, h1⟩
    · refine .inr ⟨h2, ?_⟩
      rcases ho with ⟨l', h3, hm, hl', he⟩ | ⟨h3, _⟩
      · rw [h1] at h3; cases h3
        refine ⟨hl', fun a c B w hs hB => ?_⟩
        have := bkenc_yes D D.length a c B w rfl (by omega) hm hs hB
        rwa [← he, str_data] at this
      · rw [h1] at h3; cases h3
  have hDl : D.length ≤ 1920 := by rcases hDE with ⟨_, h⟩ | ⟨_, h, _⟩; rw [h]; simp; exact h
  have S1 := fun a1 a2 c1 c2 B w h1 h2 hB => same29_walk D D.length a1 a2 c1 c2 B w rfl (by omega) h1 h2 hB
  have hEnc : ∃ (X : ByteArray) (K : Int), (∀ B w, Sl w B a (bkCells l) → B ≤ w.heap.size → Calls Try.prog 35 #[.slice a N c] w fun e w' => e = .returned (.tuple #[.string X, .int .i64 K]) ∧ Below w.heap.size w w') ∧ (∀ B w, Sl w B a (bkCells l) → B ≤ w.heap.size → Calls Try.prog 36 #[.slice a N c] w fun e w' => e = .returned (.tuple #[.string X, .int .i64 K]) ∧ Below w.heap.size w w') ∧ ((K = 1 ∧ X = ⟨#[]⟩) ∨ (K = 0 ∧ ∀ w, Calls Try.prog 37 #[.string X] w (SDPost w l 0))) := by
    by_cases hm : MayS l
    · exact ⟨_, 0, fun B w h hB => bkenc_yes l N a c B w hN (by omega) hm h hB, fun B w h hB => rbkenc_yes l N a c B w hN (by omega) hm h hB, .inr ⟨rfl, fun w => (bkdec_walk _ w (some l) (isS_of hm hlen) (skL_size hm hlen)).mono fun e w' hp => spost_of hp (.inr ⟨rfl, rfl⟩)⟩⟩
    · exact ⟨_, 1, fun B w h hB => bkenc_no l N a c B w hN (by omega) hm h hB, fun B w h hB => rbkenc_no l N a c B w hN (by omega) hm h hB, .inl ⟨rfl, rfl⟩⟩
  obtain ⟨X, K, E1, E2, hX⟩ := hEnc
  have S2 := fun a1 a2 c1 c2 B w h1 h2 hB => same29_walk l N a1 a2 c1 c2 B w hN (by omega) h1 h2 hB
  unfold SDPost at D1 D2 hX
  simp only [hN] at hX
  have qX := bytes_eq X
  have qt := bytes_eq t
  have D1 := Lib.hid D1
  have D2 := Lib.hid D2
  have E1 := Lib.hid (fun w h => E1 w.heap.size w h (Nat.le_refl _))
  have E2 := Lib.hid (fun w h => E2 w.heap.size w h (Nat.le_refl _))
  have S1 := Lib.hid (fun a1 a2 c1 c2 w h1 h2 => S1 a1 a2 c1 c2 w.heap.size w h1 h2 (Nat.le_refl _))
  have S2 := Lib.hid (fun a1 a2 c1 c2 w h1 h2 => S2 a1 a2 c1 c2 w.heap.size w h1 h2 (Nat.le_refl _))
  clear ho hD hi hDl hN
  go_enter Try.func10, Try.ntmps10
  go_wp2_with fail
  refine (HL.out _).mono ?_
  rintro e w1 ⟨rfl, rfl⟩
  go_wp2_with fail
  refine (E1.out _ hl).mono ?_
  rintro e w2 ⟨rfl, g2⟩
  have L2 := (hl.below g2 (Nat.le_refl _)).grow g2.size
  go_wp2_with fail
  refine (E2.out _ L2).mono ?_
  rintro e w3 ⟨rfl, g3⟩
  have L3 := (L2.below g3 (Nat.le_refl _)).grow g3.size
  have B3 := gtrans g2 g3
  clear g2 g3 L2
  go_wp2_with fail
  refine (D1.out _).mono ?_
  rintro e w4 ⟨a4, c4, rfl, s4, g4⟩
  have L4 := (L3.below g4 (Nat.le_refl _)).grow g4.size
  have B4 := gtrans B3 g4
  clear g4 L3 B3
  go_wp2_with fail
  refine (D2.out _).mono ?_
  rintro e w5 ⟨a5, c5, rfl, s5, g5⟩
  have L5 := (L4.below g5 (Nat.le_refl _)).grow g5.size
  have s4 := (s4.below g5 (Nat.le_refl _)).grow g5.size
  have B5 := gtrans B4 g5
  clear g5 L4 B4
  go_wp2_with fail
  refine (S1.out _ _ _ _ _ s4 s5).mono ?_
  rintro e w6 ⟨rfl, g6⟩
  have L6 := (L5.below g6 (Nat.le_refl _)).grow g6.size
  have s6 := (s4.below g6 (Nat.le_refl _)).grow g6.size
  have B6 := gtrans B5 g6
  clear g6 L5 B5 s4 s5
  rcases hDE with ⟨rfl, rfl⟩ | ⟨rfl, hDl, E3⟩
  · rcases hX with ⟨rfl, rfl⟩ | ⟨rfl, D3⟩
    · go_wp2_with fail
      refine (awake29_walk _).mono ?_
      rintro x wz ⟨rfl, gz⟩
      go_wp2_with fail
      go_ret
      exact ⟨rfl, gdrew B6 gz⟩
    · have D3 := Lib.hid D3
      go_wp2_with fail
      refine (D3.out _).mono ?_
      rintro e w8 ⟨a8, c8, rfl, s8, g8⟩
      have L8 := (L6.below g8 (Nat.le_refl _)).grow g8.size
      have B8 := gtrans B6 g8
      go_wp2_with fail
      refine (S2.out _ _ _ _ _ s8 L8).mono ?_
      rintro e w9 ⟨rfl, g9⟩
      have B9 := gtrans B8 g9
      go_wp2_with fail
      refine (awake29_walk _).mono ?_
      rintro x wz ⟨rfl, gz⟩
      go_wp2_with fail
      go_ret
      exact ⟨rfl, gdrew B9 gz⟩
  · have E3 := Lib.hid (fun a c w h => E3 a c w.heap.size w h (Nat.le_refl _))
    go_wp2_with fail
    refine (E3.out _ _ _ s6).mono ?_
    rintro e w7 ⟨rfl, g7⟩
    have L7 := (L6.below g7 (Nat.le_refl _)).grow g7.size
    have B7 := gtrans B6 g7
    clear g7 L6
    rcases hX with ⟨rfl, rfl⟩ | ⟨rfl, D3⟩
    · go_wp2_with fail
      refine (awake29_walk _).mono ?_
      rintro x wz ⟨rfl, gz⟩
      go_wp2_with fail
      go_ret
      exact ⟨rfl, gdrew B7 gz⟩
    · have D3 := Lib.hid D3
      go_wp2_with fail
      refine (D3.out _).mono ?_
      rintro e w8 ⟨a8, c8, rfl, s8, g8⟩
      have L8 := (L7.below g8 (Nat.le_refl _)).grow g8.size
      have B8 := gtrans B7 g8
      go_wp2_with fail
      refine (S2.out _ _ _ _ _ s8 L8).mono ?_
      rintro e w9 ⟨rfl, g9⟩
      have B9 := gtrans B8 g9
      go_wp2_with fail
      refine (awake29_walk _).mono ?_
      rintro x wz ⟨rfl, gz⟩
      go_wp2_with fail
      go_ret
      exact ⟨rfl, gdrew B9 gz⟩
end Go.Proofs.Ytdeenkpkcibebab
