/- The walk of chapter 7's example. -/
import Derived.Test.YtfjnmjibifefgaaDdOf
import Derived.Test.YtfjnmjibifefgaaDdRNote
import Derived.Test.YtfjnmjibifefgaaPrSame
namespace Go.Proofs.Ytfjnmjibifefgaa
open Go.RowKit Vm Bm
set_option linter.unusedVariables false
set_option linter.unusedSimpArgs false

def lA : List Pr := [⟨1, 2, 0, 3, 7⟩]
theorem ofB_wf (e s : Int) (n : Nat) (he : I64 e) (hs : I64 s) : BatWf (ofB e s n) :=
  ⟨by show I64 1; unfold I64; omega, by show I64 1; unfold I64; omega, he, hs, fun r hr => by obtain ⟨_, rfl⟩ := List.mem_replicate.1 hr; unfold RecI I64; simp⟩
theorem lookA (e s : Int) (k : Nat) (a1 : Option Addr) (w1 : World) (g : Nat) (n : Int) (d : Bool) (E : Int) (hk : k ≤ 3) (he : I64 e) (hs : I64 s) (hD : DlIs (ofB e s k) ⟨1, 2, 0, 3, 7⟩ n d E)
    (hl : Sl w1 w1.heap.size a1 (prCells lA)) (hr : Sl w1 w1.heap.size (some ⟨g, 0, none⟩) (recCells (ofB e s k).l)) :
    Calls Try.prog 17 #[.slice a1 1 1, bv (ofB e s k) (some ⟨g, 0, none⟩) k] w1 (LkPost w1 n d E) :=
  dlook_walk lA 1 a1 1 w1.heap.size (ofB e s k) _ _ w1 ⟨1, 2, 0, 3, 7⟩ n d E true rfl (by omega) (by unfold ofB maxLen; simp; omega) (ofB_wf e s k he hs) ⟨by show I64 0; unfold I64; omega, by show I64 3; unfold I64; omega⟩ (.inl ⟨by rfl, rfl⟩) hD hl hr (Nat.le_refl _)
set_option maxRecDepth 100000 in
set_option maxHeartbeats 4000000 in
theorem awake7_walk (w : World) :
    Calls Try.prog 15 #[] w fun e w' => e = .returned (.bool true) ∧ Below w.heap.size w w' := by
  have D1 : DlIs (ofB 2 0 3) ⟨1, 2, 0, 3, 7⟩ 7 true 0 := .inr (.inr ⟨by decide, .inr (.inr (.inr (.inr (.inr (.inr (.inl ⟨by decide, by decide, by decide, by decide, rfl, rfl, rfl⟩))))))⟩)
  have D2 : DlIs (ofB 2 3 1) ⟨1, 2, 0, 3, 7⟩ 0 false 0 := .inr (.inr ⟨by decide, .inr (.inr (.inr (.inr (.inr (.inr (.inr (.inr ⟨by decide, by decide, by decide, by decide, by decide, rfl, rfl, rfl⟩)))))))⟩)
  have D3 : DlIs (ofB 2 4 1) ⟨1, 2, 0, 3, 7⟩ 0 false 7 := .inr (.inr ⟨by decide, .inr (.inr (.inr (.inr (.inr (.inr (.inr (.inl ⟨by decide, by decide, by decide, by decide, by decide, rfl, rfl, rfl⟩)))))))⟩)
  have D4 : DlIs (ofB 1 3 1) ⟨1, 2, 0, 3, 7⟩ 0 false 8 := .inr (.inr ⟨by decide, .inr (.inl ⟨by decide, by decide, rfl, rfl, rfl⟩)⟩)
  have DN : NtIs (ofB 2 0 3) ⟨1, 2, 0, 3, 7⟩ false [] lA := .inr (.inl ⟨by decide, fun p hp => (by cases hp), .inr ⟨fun p hp => (by cases hp), rfl⟩⟩)
  have RN : RowIs (ofB 2 0 3) 7 ⟨1, 2, 0, 3, 7⟩ false := .inr ⟨by decide, rfl, rfl⟩
  have K3 := Lib.hid (fun w e s => of3_walk e s w)
  have K1 := Lib.hid (fun w e s => of1_walk e s w)
  unfold OfPost at K3 K1
  have LK1 := Lib.hid (fun a w g h1 h2 => lookA 2 0 3 a w g _ _ _ (by omega) (by unfold I64; omega) (by unfold I64; omega) D1 h1 h2)
  have LK2 := Lib.hid (fun a w g h1 h2 => lookA 2 3 1 a w g _ _ _ (by omega) (by unfold I64; omega) (by unfold I64; omega) D2 h1 h2)
  have LK3 := Lib.hid (fun a w g h1 h2 => lookA 2 4 1 a w g _ _ _ (by omega) (by unfold I64; omega) (by unfold I64; omega) D3 h1 h2)
  have LK4 := Lib.hid (fun a w g h1 h2 => lookA 1 3 1 a w g _ _ _ (by omega) (by unfold I64; omega) (by unfold I64; omega) D4 h1 h2)
  unfold LkPost at LK1 LK2 LK3 LK4
  have NK := Lib.hid (fun w g => dnote_walk [] 0 none 0 0 (ofB 2 0 3) (some ⟨g, 0, none⟩) 3 7 w _ _ lA rfl (by omega) RN DN (.inl rfl) (Nat.zero_le _))
  unfold OwnPost at NK
  have SK := Lib.hid (fun w a1 a2 c1 c2 h1 h2 => same_pr lA 1 a1 a2 c1 c2 w.heap.size w rfl (by omega) h1 h2 (Nat.le_refl _))
  have hal := balloc w (.cells #[.int .i64 1, .int .i64 2, .int .i64 0, .int .i64 3, .int .i64 7] 44)
  have s0 : Sl (w.alloc (.cells #[.int .i64 1, .int .i64 2, .int .i64 0, .int .i64 3, .int .i64 7] 44)) (w.alloc (.cells #[.int .i64 1, .int .i64 2, .int .i64 0, .int .i64 3, .int .i64 7] 44)).heap.size (some ⟨w.heap.size, 0, none⟩) (prCells lA) := sl_fresh w (prCells lA) 44
  clear D1 D2 D3 D4 DN RN
  go_enter Try.func15, Try.ntmps15
  go_upto_region 2 with fail
  obtain ⟨w0, hw0⟩ : ∃ w0, w0 = w.alloc (.cells #[.int .i64 1, .int .i64 2, .int .i64 0, .int .i64 3, .int .i64 7] 44) := ⟨_, rfl⟩
  rw [← hw0] at hal s0 ⊢
  clear hw0
  go_wp2_with fail
  refine (K3.out _ 2 0).mono ?_
  rintro e u0 ⟨g0, rfl, r0, h0⟩
  have s0a := (s0.below h0 (Nat.le_refl _)).grow h0.size
  have b0a := gtrans hal h0
  go_wp2_with fail
  refine (LK1.out _ _ _ s0a r0).mono ?_
  rintro e v0 ⟨rfl, h0b⟩
  have s0b := (s0a.below h0b (Nat.le_refl _)).grow h0b.size
  have b0b := gtrans b0a h0b
  clear s0a b0a s0 hal h0 h0b r0
  go_wp2_with fail
  refine (K1.out _ 2 3).mono ?_
  rintro e u1 ⟨g1, rfl, r1, h1⟩
  have s1a := (s0b.below h1 (Nat.le_refl _)).grow h1.size
  have b1a := gtrans b0b h1
  go_wp2_with fail
  refine (LK2.out _ _ _ s1a r1).mono ?_
  rintro e v1 ⟨rfl, h1b⟩
  have s1b := (s1a.below h1b (Nat.le_refl _)).grow h1b.size
  have b1b := gtrans b1a h1b
  clear s1a b1a s0b b0b h1 h1b r1
  go_wp2_with fail
  refine (K1.out _ 2 4).mono ?_
  rintro e u2 ⟨g2, rfl, r2, h2⟩
  have s2a := (s1b.below h2 (Nat.le_refl _)).grow h2.size
  have b2a := gtrans b1b h2
  go_wp2_with fail
  refine (LK3.out _ _ _ s2a r2).mono ?_
  rintro e v2 ⟨rfl, h2b⟩
  have s2b := (s2a.below h2b (Nat.le_refl _)).grow h2b.size
  have b2b := gtrans b2a h2b
  clear s2a b2a s1b b1b h2 h2b r2
  go_wp2_with fail
  refine (K1.out _ 1 3).mono ?_
  rintro e u3 ⟨g3, rfl, r3, h3⟩
  have s3a := (s2b.below h3 (Nat.le_refl _)).grow h3.size
  have b3a := gtrans b2b h3
  go_wp2_with fail
  refine (LK4.out _ _ _ s3a r3).mono ?_
  rintro e v3 ⟨rfl, h3b⟩
  have s3b := (s3a.below h3b (Nat.le_refl _)).grow h3b.size
  have b3b := gtrans b3a h3b
  clear s3a b3a s2b b2b h3 h3b r3
  go_wp2_with fail
  refine (K3.out _ 2 0).mono ?_
  rintro e u4 ⟨g4, rfl, r4, h4⟩
  have s4a := (s3b.below h4 (Nat.le_refl _)).grow h4.size
  have b4a := gtrans b3b h4
  go_wp2_with fail
  refine (NK.out _ _).mono ?_
  rintro e u5 ⟨a5, c5, rfl, own5, h5⟩
  have s5 := (s4a.below h5 (Nat.le_refl _)).grow h5.size
  have b5 := gtrans b4a h5
  have m5 := ownN_sl own5
  go_wp2_with fail
  refine (SK.out _ _ _ _ _ m5 s5).mono ?_
  rintro e u6 ⟨rfl, h6⟩
  go_wp2_with fail
  go_ret
  exact ⟨rfl, gtrans b5 h6⟩
end Go.Proofs.Ytfjnmjibifefgaa
