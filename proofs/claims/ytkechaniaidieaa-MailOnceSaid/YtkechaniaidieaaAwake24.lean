/- The walk of chapter 24's example. -/
import Derived.Test.YtkechaniaidieaaMlTwice
namespace Go.Proofs.Ytkechaniaidieaa
open Go.RowKit Vm
set_option linter.unusedVariables false
set_option linter.unusedSimpArgs false

def T24 : List (List UInt8) := [[97], [98]]
def L24a : List Pk := [⟨1, 0, 1, [97]⟩, ⟨2, 0, 1, [98]⟩]
def L24b : List Pk := [⟨1, 0, 1, [97]⟩, ⟨2, 0, 1, [98]⟩, ⟨3, 0, 1, [97]⟩]
def L24c : List Pk := [⟨1, 0, 1, [97]⟩, ⟨3, 0, 1, [97]⟩]
theorem notbad24 (T : List (List UInt8)) (h : ∀ t ∈ T, t.length ≤ 131072) : ¬ BadS 0 1 T := by
  rintro (h1 | h1 | ⟨t, ht, hl⟩)
  · exact h1 (by unfold PlaceB; omega)
  · exact h1 (by unfold PlaceB; omega)
  · have := h t ht; omega
set_option maxRecDepth 100000 in
set_option maxHeartbeats 4000000 in
theorem awake24_walk (w : World) :
    Calls Try.prog 19 #[] w fun e w' => e = .returned (.bool true) ∧ Below w.heap.size w w' := by
  have D1 : SendIs 0 [] 0 1 T24 0 2 L24a := .inr (.inr ⟨notbad24 _ (fun t ht => by simp [T24] at ht; rcases ht with rfl | rfl <;> decide), by decide, rfl, rfl, rfl⟩)
  have D2 : TwiceIs 2 L24a 0 0 3 L24b := .inr ⟨0, rfl, by decide, .inr (.inr ⟨notbad24 _ (fun t ht => by simp [L24a] at ht; subst ht; decide), by decide, rfl, rfl, rfl⟩)⟩
  have D3 : TakeIs L24b 1 ⟨2, 0, 1, [98]⟩ 0 L24c := .inr ⟨1, rfl, by decide, rfl, rfl, rfl⟩
  have N1 := Lib.hid (mnew_walk w)
  have K1 := Lib.hid (fun w at' g h ht hp => msend_walk 0 [] 0 1 T24 2 at' 2 g none 0 w 0 2 L24a rfl (by omega) (by omega) (by decide) D1 h ht hp)
  have K2 := Lib.hid (fun w g a c h => mtwice_walk g 2 L24a a c 0 w 0 3 L24b D2 (by omega) (by decide) h)
  have K3 := Lib.hid (fun w g a c h => mtake_walk g 3 L24b a c 1 w ⟨2, 0, 1, [98]⟩ 0 L24c D3 (by decide) h)
  have K4 := Lib.hid (fun w g a c h => mlist_walk g 3 L24c a c w (by decide) h)
  have K5 := Lib.hid (fun w a1 a2 c1 c2 h1 h2 => same_pk L24c 2 a1 a2 c1 c2 w.heap.size w rfl (by omega) h1 h2 (Nat.le_refl _))
  unfold MPost at K1 K2
  unfold TPost at K3
  have hq : ∀ w, (binOp .eql 37 (.agg #[.int .i64 2, .int .i64 0, .int .i64 1, .string (str [98])]) (.agg #[.int .i64 2, .int .i64 0, .int .i64 1, .string { data := #[98] }])).run Try.prog w = .ok (.bool true) w := fun w => by kernel_rfl
  clear D1 D2 D3
  go_enter Try.func19, Try.ntmps19
  go_wp2_with fail
  refine N1.out.mono ?_
  rintro e w1 ⟨rfl, M1, b1⟩
  have hal := balloc w1 (.cells #[.string { data := #[97] }, .string { data := #[98] }] 9)
  have sT : Sl (w1.alloc (.cells #[.string { data := #[97] }, .string { data := #[98] }] 9)) (w1.alloc (.cells #[.string { data := #[97] }, .string { data := #[98] }] 9)).heap.size (some ⟨w1.heap.size, 0, none⟩) (stCells T24) := sl_fresh w1 [.string { data := #[97] }, .string { data := #[98] }] 9
  have M2 := M1.keep hal
  have b2 := gtrans b1 hal
  have hg1 := M1.1.lt
  go_wp2_with fail
  refine (K1.out _ _ _ M2 sT (fun _ z hz => by injection hz with hz; subst hz; exact ⟨by simp only; omega, fun y hy => by cases hy⟩)).mono ?_
  rintro e w3 ⟨rfl, a3, c3, M3, mv3, ab3, b3⟩
  have b3' := b2.trans b3
  go_wp2_with fail
  refine (K2.out _ _ _ _ M3).mono ?_
  rintro e w4 ⟨rfl, a4, c4, M4, mv4, ab4, b4⟩
  have b4' := b3'.trans b4
  go_wp2_with fail
  refine (K3.out _ _ _ _ M4).mono ?_
  rintro e w5 ⟨rfl, a5, c5, M5, mv5, ab5, b5⟩
  have b5' := b4'.trans b5
  have hax := balloc w5 (.cells #[.int .i64 2, .int .i64 0, .int .i64 1, .string (str [98])] 37)
  have X6 := Whole.new w5 37 #[.int .i64 2, .int .i64 0, .int .i64 1, .string (str [98])]
  have M6 := M5.keep hax
  have b6 := b5'.trans (hax.mono b5'.size)
  obtain ⟨⟨x0, x1, x2, x3⟩, _, hxl⟩ := X6.four
  unfold pkV
  go_upto_region 5 with fail
  obtain ⟨w6, hw6⟩ : ∃ w6, w6 = w5.alloc (.cells #[.int .i64 2, .int .i64 0, .int .i64 1, .string (str [98])] 37) := ⟨_, rfl⟩
  rw [← hw6] at X6 M6 b6 x0 x1 x2 x3 hxl ⊢
  clear hw6
  go_wp2_with (simp only [hq])
  refine (K4.out _ _ _ _ M6).mono ?_
  rintro e w7 ⟨a7, c7, rfl, own7, b7⟩
  have b7' := b6.trans (b7.mono b6.size)
  have hal8 := balloc w7 (.cells #[.int .i64 1, .int .i64 0, .int .i64 1, .string { data := #[97] }, .int .i64 3, .int .i64 0, .int .i64 1, .string { data := #[97] }] 37)
  have s8 : Sl (w7.alloc (.cells #[.int .i64 1, .int .i64 0, .int .i64 1, .string { data := #[97] }, .int .i64 3, .int .i64 0, .int .i64 1, .string { data := #[97] }] 37)) (w7.alloc (.cells #[.int .i64 1, .int .i64 0, .int .i64 1, .string { data := #[97] }, .int .i64 3, .int .i64 0, .int .i64 1, .string { data := #[97] }] 37)).heap.size (some ⟨w7.heap.size, 0, none⟩) (pkCells L24c) := sl_fresh w7 (pkCells L24c) 37
  have s7 := ((ownN_sl own7).below hal8 (Nat.le_refl _)).grow hal8.size
  go_wp2_with fail
  refine (K5.out _ _ _ _ _ s7 s8).mono ?_
  rintro e w9 ⟨rfl, b9⟩
  go_wp2_with fail
  go_ret
  exact ⟨rfl, (gtrans b7' hal8).trans (b9.mono (Nat.le_trans b7'.size hal8.size))⟩
end Go.Proofs.Ytkechaniaidieaa
