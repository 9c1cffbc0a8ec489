/- The walk of the statement SketchAdds of layer 29 (its row opens its parameter by open_bks2). -/
import Derived.Test.YtbljhmcenjmjjaaBkAdd2
import Derived.Test.YtbljhmcenjmjjaaLSketchMerges
namespace Go.Proofs.Ytbljhmcenjmjjaa
open Go.RowKit Vm Sk
set_option linter.unusedVariables false

set_option maxRecDepth 100000 in
set_option maxHeartbeats 4000000 in
theorem bk_count_no (l : List Bk) (N : Nat) (a : Option Addr) (c B : Nat) (w : World) (hN : l.length = N) (hlen : N ≤ 2000) (hm : ¬ MayS l) (h : Sl w B a (bkCells l)) (hB : B ≤ w.heap.size) :
    Calls Try.prog 21 #[.slice a N c] w fun e w' => e = .returned (.int .i64 0) ∧ Below w.heap.size w w' := by
  have C1 := Lib.hid (fun w h' hB => bk_check_walk l N a c B w 1 hN (by omega) (.inr ⟨hm, rfl⟩) h' hB)
  go_enter Try.func21, Try.ntmps21
  go_wp2_with fail
  refine (C1.out _ h hB).mono ?_
  rintro e w1 ⟨rfl, g1⟩
  go_wp2_with fail
  go_ret
  exact ⟨rfl, g1⟩
set_option maxRecDepth 100000 in
set_option maxHeartbeats 4000000 in
theorem rcount29_no (l : List Bk) (N : Nat) (a : Option Addr) (c B : Nat) (w : World) (hN : l.length = N) (hlen : N ≤ 2000) (hm : ¬ MayS l) (h : Sl w B a (bkCells l)) (hB : B ≤ w.heap.size) :
    Calls Try.prog 22 #[.slice a N c] w fun e w' => e = .returned (.int .i64 0) ∧ Below w.heap.size w w' := by
  have C1 := Lib.hid (fun w h' hB => rmay29_walk l N a c B w false hN (by omega) ⟨(fun h => by cases h), fun h => absurd h hm⟩ h' hB)
  go_enter Try.func22, Try.ntmps22
  go_wp2_with fail
  refine (C1.out _ h hB).mono ?_
  rintro e w1 ⟨rfl, g1⟩
  go_wp2_with fail
  go_ret
  exact ⟨rfl, g1⟩
set_option maxRecDepth 100000 in
theorem some29_walk (a : Option Addr) (n c : Nat) (w : World) (hn : (n : Int) ≤ 9223372036854775807) (hc : n ≤ c) :
    Calls Try.prog 17 #[.slice a n c] w fun e w' => e = .returned (.slice a (min n 200) c) ∧ w = w' := by
  by_cases h : (200 : Int) < (n : Int)
  · have e : min n 200 = 200 := by omega
    rw [e]
    have hc2 : (200 : Int) ≤ (c : Int) := by omega
    go_enter Try.func17, Try.ntmps17
    go_wp2
    go_ret
    exact ⟨rfl, rfl⟩
  · have e : min n 200 = n := by omega
    rw [e]
    clear e
    go_enter Try.func17, Try.ntmps17
    go_wp2
    go_ret
    exact ⟨rfl, rfl⟩
theorem sl_take29 {w : World} {B : Nat} {a : Option Addr} {xs : List Value} (k : Nat) (h : Sl w B a xs) : Sl w B a (xs.take k) := by
  rcases h with h | ⟨b, off, e, hlt, hc⟩
  · exact .inl (by rw [h]; simp)
  · refine .inr ⟨b, off, e, hlt, fun j u hu => hc j u ?_⟩
    rw [List.getElem?_take] at hu
    split at hu
    · exact hu
    · cases hu
theorem row_some29 {w : World} {a : Option Addr} {len cap : Nat} {zs : List Int} (hr : IsRow .i64 w a len cap zs) :
    ∃ xs : List Int, xs.length = min len 200 ∧ Sl w w.heap.size a (i64s xs) ∧ (∀ x ∈ xs, I64 x) ∧ (len : Int) ≤ 9223372036854775807 ∧ len ≤ cap := by
  have hl := row_len hr
  refine ⟨(zs.take len).take (min len 200), by rw [List.length_take, hl]; omega, ?_, fun x hx => bounds_i64 (row_wf hr x (List.mem_of_mem_take hx)), ?_, ?_⟩
  · have := sl_take29 (min len 200) (Sl.row hr)
    rwa [← List.map_take] at this
  · rcases hr with ⟨_, rfl, _, _⟩ | ⟨x, _, h1, h2, _⟩
    · omega
    · unfold maxLen at h2; omega
  · rcases hr with ⟨_, rfl, rfl, _⟩ | ⟨x, _, h1, h2, _⟩
    · omega
    · exact h1
theorem addB_len (vs : List Int) : ∀ l : List Bk, (addB l vs).length ≤ l.length + vs.length := by
  induction vs with
  | nil => intro l; simp [addB]
  | cons x t ih =>
    intro l
    have h1 := ih (putB l (ofI x) 1)
    have h2 := putB_len l (ofI x) 1
    show (addB (putB l (ofI x) 1) t).length ≤ _
    simp only [List.length_cons]; omega
theorem adIs_len {l D : List Bk} {vs : List Int} {E : Int} (h : AdIs l vs D E) (h1 : l.length ≤ 200) (h2 : vs.length ≤ 200) : D.length ≤ 2000 := by
  rcases h with ⟨_, rfl, _⟩ | ⟨_, _, rfl, _⟩ | ⟨_, _, rfl, _⟩
  · simp
  · simp
  · have := addB_len vs l; omega
set_option maxRecDepth 100000 in
set_option maxHeartbeats 4000000 in
theorem sketchAdds_law (l : List Bk) (a1 : Option Addr) (c1 : Nat) (a2 : Option Addr) (len cap : Nat) (zs : List Int) (w : World) (hl1 : Sl w w.heap.size a1 (bkCells l)) (hi1 : ∀ r ∈ l, I64 r.b ∧ I64 r.n) (hc1 : (a1 = none → c1 = 0) ∧ l.length ≤ c1) (hr : IsRow .i64 w a2 len cap zs) (hcap : cap * 8 ≤ 140737488351232) :
    Calls Try.prog 5 #[.slice a1 l.length c1, .slice a2 len cap] w fun e w' => e = .returned (.bool true) ∧ Below w.heap.size w w' := by
  obtain ⟨N, hN⟩ : ∃ N, l.length = N := ⟨_, rfl⟩
  rw [hN]
  by_cases hz : 200 < N
  · have HL := Lib.hid (fun w => light29_walk N a1 c1 false w (.inr ⟨hz, rfl⟩))
    clear hr
    go_enter Try.func5, Try.ntmps5
    go_wp2_with fail
    refine (HL.out _).mono ?_
    rintro e w1 ⟨rfl, rfl⟩
    go_wp2_with fail
    refine (awake29_walk _).mono ?_
    rintro x wz ⟨rfl, gz⟩
    go_wp2_with fail
    go_ret
    exact ⟨rfl, gdrew (Below.refl _ _) gz⟩
  have HL := Lib.hid (fun w => light29_walk N a1 c1 true w (.inl ⟨by omega, rfl⟩))
  obtain ⟨vs, hvl, hsv, hvi, hlen, hlc⟩ := row_some29 hr
  have HS := Lib.hid (fun w => some29_walk a2 len cap w hlen hlc)
  obtain ⟨M, hM⟩ : ∃ M, M = min len 200 := ⟨_, rfl⟩
  rw [← hM] at HS hvl
  have hM2 : M ≤ 200 := by omega
  obtain ⟨D, E, hD⟩ := adIs_ex l vs
  have hDl := adIs_len hD (by omega) (by omega)
  have H1 := Lib.hid (fun w h1 h2 => badd_walk l vs N M a1 a2 c1 cap w.heap.size w D E hN hvl (by omega) hM2 hvi hD h1 h2 (Nat.le_refl _))
  have H2 := Lib.hid (fun w a c h1 h2 h3 => radd_walk l vs N M a a2 c cap w.heap.size w D E hN hvl (by omega) hM2 hvi hD h1 h2 (Nat.le_refl _) h3)
  have S1 := Lib.hid (fun a1 a2 c1 c2 w h1 h2 => same29_walk D D.length a1 a2 c1 c2 w.heap.size w rfl (by omega) h1 h2 (Nat.le_refl _))
  have S2 := Lib.hid (fun a1 a2 c1 c2 w h1 h2 => same29_walk l N a1 a2 c1 c2 w.heap.size w hN (by omega) h1 h2 (Nat.le_refl _))
  unfold MgPost at H1 H2
  have hKdn : ∃ (K n : Int) (d : Bool), ((K = 0 ∧ d = true) ∨ (K = 1 ∧ d = false)) ∧ Hid (∀ w, Sl w w.heap.size a1 (bkCells l) → Calls Try.prog 23 #[.slice a1 N c1] w fun e w' => e = .returned (.int .i64 K) ∧ Below w.heap.size w w') ∧ Hid (∀ w, Sl w w.heap.size a1 (bkCells l) → Calls Try.prog 24 #[.slice a1 N c1] w fun e w' => e = .returned (.bool d) ∧ Below w.heap.size w w')
      ∧ Hid (∀ w, Sl w w.heap.size a1 (bkCells l) → Calls Try.prog 21 #[.slice a1 N c1] w fun e w' => e = .returned (.int .i64 n) ∧ Below w.heap.size w w') ∧ Hid (∀ w, Sl w w.heap.size a1 (bkCells l) → Calls Try.prog 22 #[.slice a1 N c1] w fun e w' => e = .returned (.int .i64 n) ∧ Below w.heap.size w w') := by
    by_cases hm : MayS l
    · exact ⟨0, sumN l, true, .inl ⟨rfl, rfl⟩, Lib.hid (fun w h => bk_check_walk l N a1 c1 _ w 0 hN (by omega) (.inl ⟨hm, rfl⟩) h (Nat.le_refl _)), Lib.hid (fun w h => rmay29_walk l N a1 c1 _ w true hN (by omega) ⟨fun _ => hm, fun _ => rfl⟩ h (Nat.le_refl _)),
        Lib.hid (fun w h => bk_count_walk l N a1 c1 _ w hN (by omega) hm h (Nat.le_refl _)), Lib.hid (fun w h => rcount29_walk l N a1 c1 _ w hN (by omega) hm h (Nat.le_refl _))⟩
    · exact ⟨1, 0, false, .inr ⟨rfl, rfl⟩, Lib.hid (fun w h => bk_check_walk l N a1 c1 _ w 1 hN (by omega) (.inr ⟨hm, rfl⟩) h (Nat.le_refl _)), Lib.hid (fun w h => rmay29_walk l N a1 c1 _ w false hN (by omega) ⟨(fun h => by cases h), fun h => absurd h hm⟩ h (Nat.le_refl _)),
        Lib.hid (fun w h => bk_count_no l N a1 c1 _ w hN (by omega) hm h (Nat.le_refl _)), Lib.hid (fun w h => rcount29_no l N a1 c1 _ w hN (by omega) hm h (Nat.le_refl _))⟩
  obtain ⟨K, n, d, hKd, W1, W2, W3, W4⟩ := hKdn
  obtain ⟨i0, hi, hz0, hz1, hz2⟩ := info_parts info_bk
  have hcl := bkCells_length l
  clear hr hD hDl hvl hvi hlen hlc hM
  have HNil := Lib.hid (show w.ownsRow w.heap.size 63 2 (.slice none 0 0) 0 [] from World.ownsRow_nil _ _ _ _)
  rcases a1 with _ | ad
  · obtain rfl := hc1.1 rfl
    have hl0 : l = [] := by
      rcases hl1 with h | ⟨b, off, e, _⟩
      · have := congrArg List.length h
        rw [bkCells_length, List.length_nil] at this
        exact List.eq_nil_of_length_eq_zero (by omega)
      · cases e
    subst hl0
    obtain rfl : N = 0 := hN.symm
    go_enter Try.func5, Try.ntmps5
    go_wp2_with fail
    refine (HL.out _).mono ?_
    rintro e w1 ⟨rfl, hw1⟩
    subst w1
    go_wp2_with fail
    refine (HS.out _).mono ?_
    rintro e w1 ⟨rfl, hw1⟩
    subst w1
    go_wp2_with (at_builtin; refine wpList_append_own_none rfl _ _ 30 rfl w.heap.size 63 i0 2 Try.underlying30 hi _ _ _ rfl HNil.out rfl ?_)
    have hown' : w.ownsRow w.heap.size 63 2 (.slice none 0 0) 0 (bkCells []) := HNil.out
    have hb3 := Below.refl w.heap.size w
    have HOC := Lib.hid (own_cap hown')
    have k3 := own_sln hown'
    have p3 := (hl1.below hb3 (Nat.le_refl _)).grow hb3.size
    have v3 := (hsv.below hb3 (Nat.le_refl _)).grow hb3.size
    clear hown' hl1 hsv
    go_wp2_with fail
    refine (H1.out _ p3 v3).mono ?_
    rintro e w4 ⟨a4, c4, rfl, s4, g4⟩
    have k4 := (k3.below g4 (Nat.le_refl _)).grow g4.size
    have p4 := (p3.below g4 (Nat.le_refl _)).grow g4.size
    have v4 := (v3.below g4 (Nat.le_refl _)).grow g4.size
    have g4 := hb3.trans (g4.mono hb3.size)
    clear k3 p3 v3 hb3
    go_wp2_with fail
    refine (H2.out _ none 0 k4 v4 ⟨fun _ => rfl, Nat.le_refl _⟩).mono ?_
    rintro e w5 ⟨a5, c5, rfl, s5, g5⟩
    have k5 := (k4.below g5 (Nat.le_refl _)).grow g5.size
    have p5 := (p4.below g5 (Nat.le_refl _)).grow g5.size
    have s4 := (s4.below g5 (Nat.le_refl _)).grow g5.size
    have g5 := gtrans g4 g5
    clear k4 p4 v4 g4
    go_wp2_with fail
    refine (S1.out _ _ _ _ _ s4 s5).mono ?_
    rintro e w6 ⟨rfl, g6⟩
    have k6 := (k5.below g6 (Nat.le_refl _)).grow g6.size
    have p6 := (p5.below g6 (Nat.le_refl _)).grow g6.size
    have g6 := gtrans g5 g6
    clear k5 p5 g5 s4 s5
    go_wp2_with fail
    refine (S2.out _ _ _ _ _ p6 k6).mono ?_
    rintro e w7 ⟨rfl, g7⟩
    have p7 := (p6.below g7 (Nat.le_refl _)).grow g7.size
    have g7 := gtrans g6 g7
    clear k6 p6 g6
    go_wp2_with fail
    refine (W3.out _ p7).mono ?_
    rintro e w8 ⟨rfl, g8⟩
    have p8 := (p7.below g8 (Nat.le_refl _)).grow g8.size
    have g8 := gtrans g7 g8
    clear p7 g7
    go_wp2_with fail
    refine (W4.out _ p8).mono ?_
    rintro e w9 ⟨rfl, g9⟩
    have p9 := (p8.below g9 (Nat.le_refl _)).grow g9.size
    have g9 := gtrans g8 g9
    clear p8 g8
    go_wp2_with fail
    refine (W1.out _ p9).mono ?_
    rintro e w10 ⟨rfl, g10⟩
    have p10 := (p9.below g10 (Nat.le_refl _)).grow g10.size
    have g10 := gtrans g9 g10
    clear p9 g9
    go_wp2_with fail
    refine (W2.out _ p10).mono ?_
    rintro e w11 ⟨rfl, g11⟩
    have g11 := gtrans g10 g11
    clear p10 g10
    rcases hKd with ⟨rfl, rfl⟩ | ⟨rfl, rfl⟩
    all_goals
      go_wp2_with fail
      refine (awake29_walk _).mono ?_
      rintro x wz ⟨rfl, gz⟩
      go_wp2_with fail
      go_ret
      exact ⟨rfl, gdrew g11 gz⟩
  · have hc : ∀ j u, (bkCells l)[j]? = some u → w.cell? (ad.add j) = some u := by
      rcases hl1 with h | ⟨b, off, e, _, hc⟩
      · intro j u hu; rw [h] at hu; cases hu
      · injection e with e
        subst e
        intro j u hu
        rw [add_at]; exact hc j u hu
    have HC := Lib.hid hc
    clear hc
    go_enter Try.func5, Try.ntmps5
    go_wp2_with fail
    refine (HL.out _).mono ?_
    rintro e w1 ⟨rfl, hw1⟩
    subst w1
    go_wp2_with fail
    refine (HS.out _).mono ?_
    rintro e w1 ⟨rfl, hw1⟩
    subst w1
    go_wp2_with (at_builtin; refine wpList_append_own _ rfl _ _ 30 rfl w.heap.size 63 i0 (.agg #[.int .i64 0, .int .i64 0]) 2 16 Try.underlying30 hi hz0 hz1 hz2 rfl (by decide) _ _ _ rfl HNil.out ad N c1 (bkCells l) rfl ?c1 ?c2 ?c3 ?c4 ?c5 ?c6 ?_)
    case c1 => rw [hcl, hN]
    case c2 => exact HC.out
    case c3 => exact bkCells_one l
    case c4 => unfold maxLen; omega
    case c5 => omega
    case c6 => exact Nat.le_refl _
    intro v' w3 hown' hgrow _
    obtain ⟨a3, c3, rfl⟩ := own_shape hown'
    have hb3 := (Below.refl w.heap.size w).grown hgrow (Nat.le_refl _) (fun g hg => by cases hg)
    have HOC := Lib.hid (own_cap hown')
    have k3 := own_sln hown'
    have p3 := (hl1.below hb3 (Nat.le_refl _)).grow hb3.size
    have v3 := (hsv.below hb3 (Nat.le_refl _)).grow hb3.size
    clear hown' hl1 hsv
    go_wp2_with fail
    refine (H1.out _ p3 v3).mono ?_
    rintro e w4 ⟨a4, c4, rfl, s4, g4⟩
    have k4 := (k3.below g4 (Nat.le_refl _)).grow g4.size
    have p4 := (p3.below g4 (Nat.le_refl _)).grow g4.size
    have v4 := (v3.below g4 (Nat.le_refl _)).grow g4.size
    have g4 := hb3.trans (g4.mono hb3.size)
    clear k3 p3 v3 hb3
    go_wp2_with fail
    refine (H2.out _ _ _ k4 v4 HOC.out).mono ?_
    rintro e w5 ⟨a5, c5, rfl, s5, g5⟩
    have k5 := (k4.below g5 (Nat.le_refl _)).grow g5.size
    have p5 := (p4.below g5 (Nat.le_refl _)).grow g5.size
    have s4 := (s4.below g5 (Nat.le_refl _)).grow g5.size
    have g5 := gtrans g4 g5
    clear k4 p4 v4 g4
    go_wp2_with fail
    refine (S1.out _ _ _ _ _ s4 s5).mono ?_
    rintro e w6 ⟨rfl, g6⟩
    have k6 := (k5.below g6 (Nat.le_refl _)).grow g6.size
    have p6 := (p5.below g6 (Nat.le_refl _)).grow g6.size
    have g6 := gtrans g5 g6
    clear k5 p5 g5 s4 s5
    go_wp2_with fail
    refine (S2.out _ _ _ _ _ p6 k6).mono ?_
    rintro e w7 ⟨rfl, g7⟩
    have p7 := (p6.below g7 (Nat.le_refl _)).grow g7.size
    have g7 := gtrans g6 g7
    clear k6 p6 g6
    go_wp2_with fail
    refine (W3.out _ p7).mono ?_
    rintro e w8 ⟨rfl, g8⟩
    have p8 := (p7.below g8 (Nat.le_refl _)).grow g8.size
    have g8 := gtrans g7 g8
    clear p7 g7
    go_wp2_with fail
    refine (W4.out _ p8).mono ?_
    rintro e w9 ⟨rfl, g9⟩
    have p9 := (p8.below g9 (Nat.le_refl _)).grow g9.size
    have g9 := gtrans g8 g9
    clear p8 g8
    go_wp2_with fail
    refine (W1.out _ p9).mono ?_
    rintro e w10 ⟨rfl, g10⟩
    have p10 := (p9.below g10 (Nat.le_refl _)).grow g10.size
    have g10 := gtrans g9 g10
    clear p9 g9
    go_wp2_with fail
    refine (W2.out _ p10).mono ?_
    rintro e w11 ⟨rfl, g11⟩
    have g11 := gtrans g10 g11
    clear p10 g10
    rcases hKd with ⟨rfl, rfl⟩ | ⟨rfl, rfl⟩
    all_goals
      go_wp2_with fail
      refine (awake29_walk _).mono ?_
      rintro x wz ⟨rfl, gz⟩
      go_wp2_with fail
      go_ret
      exact ⟨rfl, gdrew g11 gz⟩
end Go.Proofs.Ytbljhmcenjmjjaa
