/- The walk of the statement QuotaTakes of layer 36. -/
import Derived.Test.YtbhbilmpkgcmeaaQuRTake
import Derived.Test.YtbhbilmpkgcmeaaAwake36
import Derived.Test.YtbhbilmpkgcmeaaAcSame
import Derived.Test.YtbhbilmpkgcmeaaAcOpen
namespace Go.Proofs.Ytbhbilmpkgcmeaa
open Go.RowKit Vm
set_option linter.unusedVariables false

theorem tkIs_len {t m : Int} {l D : List Ac} {who n now W E : Int} (h : TkIs t m l who n now D W E) : D.length ≤ l.length + 1 := by
  rcases h with ⟨_, rfl, _⟩ | ⟨_, _, rfl, _⟩ | ⟨_, _, _, _, rfl, _⟩ | ⟨_, _, _, _, rfl, _⟩ | ⟨_, _, ⟨x, _, _, rfl⟩, _⟩ | ⟨_, _, ⟨x, _, _, rfl, _⟩, _⟩
  · simp
  · simp
  · simp
  · exact putR_len _ _ _
  · exact putR_len _ _ _
  · omega
theorem box2_keep {w1 w3 w4 : World} {b : Nat} {v0 v1 : Value} (h : w3.cell? ⟨b, 0, none⟩ = some v0 ∧ w3.cell? ⟨b, 1, none⟩ = some v1 ∧ Below w1.heap.size w1 w3) (hb : Below w3.heap.size w3 w4) :
    w4.cell? ⟨b, 0, none⟩ = some v0 ∧ w4.cell? ⟨b, 1, none⟩ = some v1 ∧ Below w1.heap.size w1 w4 := by
  obtain ⟨h0, h1, h5⟩ := h
  exact ⟨(hb.cell (cell_lt h0)).trans h0, (hb.cell (cell_lt h1)).trans h1, gtrans h5 hb⟩
theorem box2_b {w1 w3 : World} {b : Nat} {v0 v1 : Value} (h : w3.cell? ⟨b, 0, none⟩ = some v0 ∧ w3.cell? ⟨b, 1, none⟩ = some v1 ∧ Below w1.heap.size w1 w3) : Below w1.heap.size w1 w3 := h.2.2
set_option maxRecDepth 100000 in
set_option maxHeartbeats 4000000 in
theorem quotaTakes_law (t m : Int) (l : List Ac) (a1 : Option Addr) (c1 : Nat) (who n now : Int) (w : World) (ht : (Lit.int .i64 t).wf = true) (hm : (Lit.int .i64 m).wf = true)
    (hl1 : Sl w w.heap.size a1 (acCells l)) (hi1 : ∀ r ∈ l, AcI r) (hc1 : (a1 = none → c1 = 0) ∧ l.length ≤ c1 ∧ c1 ≤ maxLen) (hwho : (Lit.int .i64 who).wf = true) (hn : (Lit.int .i64 n).wf = true) (hnow : (Lit.int .i64 now).wf = true) :
    Calls Try.prog 9 #[.agg #[.int .i64 t, .int .i64 m], .slice a1 l.length c1, .int .i64 who, .int .i64 n, .int .i64 now] w fun e w' => e = .returned (.bool true) ∧ Below w.heap.size w w' := by
  obtain ⟨N, hN⟩ : ∃ N, l.length = N := ⟨_, rfl⟩
  rw [hN] at hc1 ⊢
  have hal := balloc w (.cells #[.int .i64 t, .int .i64 m] 60)
  by_cases hz : 80 < N
  · have hz2 : (80 : Int) < (N : Int) := by omega
    go_enter Try.func9, Try.ntmps9
    go_wp2_with fail
    refine (awake36_walk _).mono ?_
    rintro e w1 ⟨rfl, g1⟩
    go_wp2_with fail
    go_ret
    exact ⟨rfl, gtrans hal g1⟩
  have hz2 : ¬ (80 : Int) < (N : Int) := by omega
  obtain ⟨D, W, E, hD⟩ := tkIs_ex t m l who n now
  have hDl := tkIs_len hD
  have H1 := Lib.hid (fun w h => qtake_walk t m l N a1 c1 w.heap.size who n now w D W E hN hD h (Nat.le_refl _))
  have H2 := Lib.hid (fun w a c h h3 => rtake_walk t m l N a c w.heap.size who n now w D W E hN hD h (Nat.le_refl _) h3)
  have S1 := Lib.hid (fun a1 a2 c1 c2 w h1 h2 => same_ac D D.length a1 a2 c1 c2 w.heap.size w rfl (by omega) h1 h2 (Nat.le_refl _))
  have S2 := Lib.hid (fun a1 a2 c1 c2 w h1 h2 => same_ac l N a1 a2 c1 c2 w.heap.size w hN (by omega) h1 h2 (Nat.le_refl _))
  unfold QPost at H1 H2
  have hKd : ∃ (K : Int) (d : Bool), ((K = 0 ∧ d = true) ∨ (K = 1 ∧ d = false)) ∧ Hid (∀ w, Calls Try.prog 40 #[.agg #[.int .i64 t, .int .i64 m]] w fun e w' => e = .returned (.int .i64 K) ∧ Below w.heap.size w w') ∧ Hid (∀ w, Calls Try.prog 41 #[.agg #[.int .i64 t, .int .i64 m]] w fun e w' => e = .returned (.bool d) ∧ Below w.heap.size w w') := by
    by_cases hq : MayQ t m
    · exact ⟨0, true, .inl ⟨rfl, rfl⟩, Lib.hid (fun w => qcheck_yes t m w hq), Lib.hid (fun w => rmay36_yes t m w hq)⟩
    · exact ⟨1, false, .inr ⟨rfl, rfl⟩, Lib.hid (fun w => qcheck_no t m w hq), Lib.hid (fun w => rmay36_no t m w hq)⟩
  obtain ⟨K, d, hKd, W1, W2⟩ := hKd
  obtain ⟨i0, hi, hz0, hz1, hz3⟩ := info_parts info_ac
  have c0 : ∀ w1, Below (w.heap.size + 1) (w.alloc (.cells #[.int .i64 t, .int .i64 m] 60)) w1 → w1.cell? ⟨w.heap.size, 0, none⟩ = some (.int .i64 t) ∧ w1.cell? ⟨w.heap.size, 1, none⟩ = some (.int .i64 m) := fun w1 g => by
    refine ⟨?_, ?_⟩ <;> (rw [g.cell (by simp), World.cell?_alloc_at _ _ _ _ rfl]; rfl)
  have C0 := Lib.hid c0
  have hal2 : w.heap.size + 1 ≤ (w.alloc (.cells #[.int .i64 t, .int .i64 m] 60)).heap.size := by simp
  have p0 := (hl1.below hal (Nat.le_refl _)).grow hal.size
  have HNe := Lib.hid hN
  have HC1 := Lib.hid hc1
  clear hD hDl c0 hN hc1
  generalize hw0 : w.alloc (.cells #[.int .i64 t, .int .i64 m] 60) = w0 at *
  have HNil := Lib.hid (show w0.ownsRow w0.heap.size 102 3 (.slice none 0 0) 0 [] from World.ownsRow_nil _ _ _ _)
  have HW0 := Lib.hid hw0
  clear hw0
  go_enter Try.func9, Try.ntmps9
  go_wp2_with (at_builtin; rw [HW0.out]; refine wp_app rfl _ _ 61 rfl w0.heap.size 102 i0 (.agg #[.int .i64 0, .int .i64 0, .int .i64 0]) 3 24 Try.underlying61 hi hz0 hz1 hz3 rfl (by decide) _ _ _ rfl HNil.out a1 N c1 rfl (acCells l) w0.heap.size w0 ?c1 p0 ?c2 (acCells_one _) ?c3 ?c4 (Nat.le_refl _) (Below.refl _ _) ?_)
  case c1 => rw [acCells_length, HNe.out]
  case c2 => intro h; have h1 := HC1.out.1 h; have h2 := HC1.out.2.1; exact ⟨by omega, h1⟩
  case c3 => unfold maxLen; omega
  case c4 => omega
  intro a2 c2 w2 own2 b2
  have k2 := ownN_sl own2
  have HOC := Lib.hid (ownN_cap own2)
  have p2 := (p0.below b2 (Nat.le_refl _)).grow b2.size
  have q2 := b2.mono hal2
  have z2 : w.heap.size + 1 ≤ w2.heap.size := Nat.le_trans hal2 b2.size
  have g2 := gtrans hal b2
  obtain ⟨d0, d1⟩ := C0.out _ q2
  clear own2 p0 b2
  go_wp2_with fail
  refine (H1.out _ p2).mono ?_
  rintro e w3 ⟨a3, c3, rfl, s3, g3, _, _⟩
  have q3 := q2.trans (g3.mono z2)
  have z3 : w.heap.size + 1 ≤ w3.heap.size := Nat.le_trans z2 g3.size
  have p3 := (p2.below g3 (Nat.le_refl _)).grow g3.size
  have k3 := (k2.below g3 (Nat.le_refl _)).grow g3.size
  have g3 := gtrans g2 g3
  clear d0 d1 p2 k2 g2 q2
  obtain ⟨d0, d1⟩ := C0.out _ q3
  go_wp2_with fail
  refine (H2.out _ _ _ k3 HOC.out).mono ?_
  rintro e w4 ⟨a4, c4, rfl, s4, g4, _, _⟩
  have q4 := q3.trans (g4.mono z3)
  have p4 := (p3.below g4 (Nat.le_refl _)).grow g4.size
  have k4 := (k3.below g4 (Nat.le_refl _)).grow g4.size
  have s3 := (s3.below g4 (Nat.le_refl _)).grow g4.size
  have g4 := gtrans g3 g4
  clear d0 d1 p3 k3 g3 q3
  obtain ⟨d0, d1⟩ := C0.out _ q4
  have hS0 : w4.drew.cell? ⟨w.heap.size, 0, none⟩ = some (.int .i64 t) ∧ w4.drew.cell? ⟨w.heap.size, 1, none⟩ = some (.int .i64 m) ∧ Below w4.heap.size w4 w4.drew := ⟨d0, d1, (Below.refl _ _).drew⟩
  have HS1 := Lib.hid (fun w5 (h : Below w4.heap.size w4 w5) => S1.out a3 a4 c3 c4 w5 ((s3.below h (Nat.le_refl _)).grow h.size) ((s4.below h (Nat.le_refl _)).grow h.size))
  have HS2 := Lib.hid (fun w5 (h : Below w4.heap.size w4 w5) => S2.out a1 a2 c1 c2 w5 ((p4.below h (Nat.le_refl _)).grow h.size) ((k4.below h (Nat.le_refl _)).grow h.size))
  clear p4 k4 s3 s4 q4
  rcases hKd with ⟨rfl, rfl⟩ | ⟨rfl, rfl⟩
  all_goals
    go_wp2_with fail
    go_region_held3 (fun w' => w'.cell? ⟨w.heap.size, 0, none⟩ = some (.int .i64 t) ∧ w'.cell? ⟨w.heap.size, 1, none⟩ = some (.int .i64 m) ∧ Below w4.heap.size w4 w')
      (with_reducible assumption)
      (first
        | (go_at_call_of 39 a3; refine (HS1.out _ (box2_b (by with_reducible assumption))).mono ?_; rintro e w5 ⟨rfl, g5⟩; have y := box2_keep (by with_reducible assumption) g5)
        | (go_at_call_of 39 a1; refine (HS2.out _ (box2_b (by with_reducible assumption))).mono ?_; rintro e w5 ⟨rfl, g5⟩; have y := box2_keep (by with_reducible assumption) g5)
        | (go_at_call 40; refine (W1.out _).mono ?_; rintro e w5 ⟨rfl, g5⟩; have y := box2_keep (by with_reducible assumption) g5)
        | (go_at_call 41; refine (W2.out _).mono ?_; rintro e w5 ⟨rfl, g5⟩; have y := box2_keep (by with_reducible assumption) g5)
        | (go_at_call 36; refine (awake36_walk _).mono ?_; rintro e w5 ⟨rfl, g5⟩; have y := box2_keep (by with_reducible assumption) g5))
    have y5 := gtrans g4 y.2.2
    go_wp2_with fail
    go_ret
    exact ⟨rfl, y5⟩
end Go.Proofs.Ytbhbilmpkgcmeaa
