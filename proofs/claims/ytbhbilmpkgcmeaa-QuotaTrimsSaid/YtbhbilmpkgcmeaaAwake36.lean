/- The walk of chapter 36's example. -/
import Derived.Test.YtbhbilmpkgcmeaaQuTake
namespace Go.Proofs.Ytbhbilmpkgcmeaa
open Go.RowKit Vm
set_option linter.unusedVariables false

theorem good36 (l : List Ac) (now : Int) (hn : 0 ≤ now ∧ now ≤ 10) (h : RightQ 2 5 l now) : GoodQ 2 5 l 1 4 now := ⟨h, by omega, by omega⟩
set_option maxRecDepth 100000 in
set_option maxHeartbeats 2000000 in
theorem awake36_walk (w : World) :
    Calls Try.prog 36 #[] w fun e w' => e = .returned (.bool true) ∧ Below w.heap.size w w' := by
  have hm : MayQ 2 5 := by decide
  have r1 : RightQ 2 5 [] 0 := ⟨hm, by omega, by simp, fun i h => by cases h⟩
  have r2 : RightQ 2 5 [⟨1, 1, 0⟩] 0 := ⟨hm, by omega, by simp, fun i h => by
    obtain rfl : i = 0 := by simpa using h
    refine ⟨⟨?_, ?_⟩, ?_, ?_, ?_, ?_, ?_⟩ <;> simp⟩
  have r3 : RightQ 2 5 [⟨1, 1, 0⟩] 2 := ⟨hm, by omega, by simp, fun i h => by
    obtain rfl : i = 0 := by simpa using h
    refine ⟨⟨?_, ?_⟩, ?_, ?_, ?_, ?_, ?_⟩ <;> simp⟩
  have T1 : TkIs 2 5 [] 1 4 0 [⟨1, 1, 0⟩] 0 0 := .inr (.inr (.inr (.inl ⟨good36 _ _ (by omega) r1, by omega, rfl, by simp, rfl, rfl, rfl⟩)))
  have T2 : TkIs 2 5 [⟨1, 1, 0⟩] 1 4 0 [⟨1, 1, 0⟩] 2 10 := .inr (.inr (.inr (.inr (.inr ⟨good36 _ _ (by omega) r2, by omega, ⟨⟨1, 1, 0⟩, rfl, by decide, rfl, by decide⟩, rfl⟩))))
  have T3 : TkIs 2 5 [⟨1, 1, 0⟩] 1 4 2 [⟨1, 1, 2⟩] 0 0 := .inr (.inr (.inr (.inr (.inl ⟨good36 _ _ (by omega) r3, by omega, ⟨⟨1, 1, 0⟩, rfl, by decide, by rfl⟩, rfl, rfl⟩))))
  have H1 := Lib.hid (fun w h => qtake_walk 2 5 [] 0 none 0 w.heap.size 1 4 0 w _ _ _ rfl T1 h (Nat.le_refl _))
  have H2 := Lib.hid (fun w a c h => qtake_walk 2 5 [⟨1, 1, 0⟩] 1 a c w.heap.size 1 4 0 w _ _ _ rfl T2 h (Nat.le_refl _))
  have H3 := Lib.hid (fun w a c h => qtake_walk 2 5 [⟨1, 1, 0⟩] 1 a c w.heap.size 1 4 2 w _ _ _ rfl T3 h (Nat.le_refl _))
  unfold QPost at H1 H2 H3
  have c0 : ∀ w1, Below (w.heap.size + 1) (w.alloc (.cells #[.int .i64 2, .int .i64 5] 60)) w1 → w1.cell? ⟨w.heap.size, 0, none⟩ = some (.int .i64 2) ∧ w1.cell? ⟨w.heap.size, 1, none⟩ = some (.int .i64 5) := fun w1 g => by
    refine ⟨?_, ?_⟩ <;> (rw [g.cell (by simp), World.cell?_alloc_at _ _ _ _ rfl]; rfl)
  have C0 := Lib.hid c0
  have hal2 : w.heap.size + 1 ≤ (w.alloc (.cells #[.int .i64 2, .int .i64 5] 60)).heap.size := by simp
  have hal := balloc w (.cells #[.int .i64 2, .int .i64 5] 60)
  have z0 := hal.size
  clear hm r1 r2 r3 T1 T2 T3 c0
  go_enter Try.func36, Try.ntmps36
  go_wp2_with fail
  refine (H1.out _ (.inl rfl)).mono ?_
  rintro e w1 ⟨a1, c1, rfl, s1, g1, _, _⟩
  have q1 := g1.mono hal2
  have b1 := gtrans hal g1
  have z1 : w.heap.size + 1 ≤ w1.heap.size := Nat.le_trans hal2 g1.size
  obtain ⟨d0, d1⟩ := C0.out _ q1
  go_wp2_with fail
  refine (H2.out _ _ _ s1).mono ?_
  rintro e w2 ⟨a2, c2, rfl, s2, g2, _, _⟩
  have q2 := q1.trans (g2.mono z1)
  have b2 := gtrans b1 g2
  have s1 := (s1.below g2 (Nat.le_refl _)).grow g2.size
  have z2 : w.heap.size + 1 ≤ w2.heap.size := Nat.le_trans z1 g2.size
  clear d0 d1
  obtain ⟨d0, d1⟩ := C0.out _ q2
  go_wp2_with fail
  refine (H3.out _ _ _ s1).mono ?_
  rintro e w3 ⟨a3, c3, rfl, s3, g3, _, _⟩
  have b3 := gtrans b2 g3
  go_wp2_with fail
  go_ret
  exact ⟨rfl, b3⟩
end Go.Proofs.Ytbhbilmpkgcmeaa
