/- headgatelaw10.step: a deed done to both groups. -/
import Derived.Test.YtocmhmfaehnliaaGrBoth
import Derived.Deep.RegionHeld3
namespace Go.Proofs.Ytocmhmfaehnliaa
open Go.RowKit Vm As
set_option linter.unusedVariables false
set_option linter.unusedSimpArgs false


/-- Behind a step: both as they are to be, apart, and nothing else touched. -/
def StepP (g r : Nat) (G' : Gr) (S T : Nat → Prop) (w : World) (e : Ending) (w' : World) : Prop := e = .returned (.bool true) ∧ ∃ S' T', GA w' g G' S' ∧ RA w' r G' T' ∧ (∀ k, S' k → ¬ T' k) ∧ Mvs w w' (Un S T) (Un S' T')
theorem step_end {w wx : World} {g r : Nat} {G G' : Gr} {S T S' T' : Nat → Prop} {xb : Nat} {t : TypeId} {cs : Array Value} (hG : G = G') (J : JJ wx g r G G S' T' xb t cs) (M : Mvs w wx (Un S T) (Un S' T')) : StepP g r G' S T w (.returned (.bool true)) wx := by
  subst hG
  exact ⟨rfl, S', T', J.ga, J.ra, J.dj, M⟩
def SyncQ2 (g : Nat) (S : Nat → Prop) (G' : Gr) (N : Int) (L : List Int) (E : Int) (w : World) (e : Ending) (w' : World) : Prop := ∃ al cl, e = .returned (.tuple #[.int .i64 N, .slice al L.length cl, .int .i64 E]) ∧ ∃ S', GA w' g G' S' ∧ Mvs w w' S S' ∧ Sl w' w'.heap.size al (i64s L) ∧ ∀ x, al = some x → w.heap.size ≤ x.block
theorem sync_ga2 (K : Nat) (x : Int) (G : Gr) (g : Nat) (S : Nat → Prop) (w : World) (hK : K ≤ 800) (hok : GOk G K) (h : GA w g G S) :
    Calls Try.prog 20 #[.pointer (some ⟨g, 0, none⟩), .int .i64 x] w (SyncQ2 g S (syncG G x) (syncN G x) (syncL G x) (syncE G x) w) := by
  obtain ⟨a, c, b, d, h, rfl⟩ := h
  exact (gsync_walk K x G g a c b d w hK hok h).mono fun e w' ⟨a', c', b', d', al, cl, he, h1, h2, h3, h4⟩ => ⟨al, cl, he, _, ⟨a', c', b', d', h1, rfl⟩, h2, h3, fun x hx => (h4 x hx).1⟩

set_option maxRecDepth 100000 in
set_option maxHeartbeats 16000000 in
theorem step_join0 (K : Nat) (y : Gd) (G : Gr) (g r : Nat) (S T : Nat → Prop) (w : World) (hK : K ≤ 700) (hok : GOk G K) (hasc : Asc G.L) (hy : y.k = 0) (h1 : GA w g G S) (h2 : RA w r G T) (hd : ∀ k, S k → ¬ T k) :
    Calls Try.prog 13 #[.pointer (some ⟨g, 0, none⟩), .pointer (some ⟨r, 0, none⟩), gdV y] w (StepP g r (doesY G y) S T w) := by
  have HD := Lib.hid (show joinG G y.a = doesY G y from by unfold doesY; simp [hy])
  have HOK := Lib.hid hok
  have hlN := hok.len
  have ho1 := hok.o1
  have hal := balloc w (.cells (gdC y) 36)
  have hX := Whole.new w 36 (gdC y)
  have J1 : JJ (w.alloc (.cells (gdC y) 36)) g r G G S T w.heap.size 36 (gdC y) := ⟨h1.keep hal, h2.same (fun k hk _ => hal.block k hk), hd, hX, fun h => by have := h1.live _ h; omega, fun h => by have := h2.live _ h; omega⟩
  have M1 := Mvs.below (Un S T) hal
  have KC := Lib.hid (fun w' (J : JJ w' g r G G S T w.heap.size 36 (gdC y)) => join_ga K y.a G g S w' (by omega) HOK.out J.ga)
  have KR := Lib.hid (fun w' S' G' (J : JJ w' g r G' G S' T w.heap.size 36 (gdC y)) => rjoin_ra K y.a G r T w' (by omega) HOK.out J.ra)
  obtain ⟨yk, ya, yb, yp, yn⟩ := y
  simp only at hy
  unfold gdV gdC at *
  simp only at *
  clear h1 h2 hd hX hok hasc hal
  subst hy
  go_enter Try.func13, Try.ntmps13
  go_upto_region 1 with fail
  obtain ⟨w1, hw1⟩ : ∃ w1, w1 = w.alloc (.cells #[.int .i64 0, .int .i64 ya, .int .i64 yb, .int .i64 yp, .bool yn] 36) := ⟨_, rfl⟩
  rw [← hw1] at J1 M1 ⊢
  clear hw1
  obtain ⟨x0, x1, x2, x3, x4, _, xl⟩ := J1.bx.five
  unfold joinV at KC KR
  generalize joinI G ya = ei at *
  generalize joinN G ya = en at *
  generalize joinE G ya = ee at *
  generalize joinG G ya = G2 at *
  have eq1 : (ei == ei) = true := by simp
  have eq2 : (en == en) = true := by simp
  have eq3 : (ee == ee) = true := by simp
  go_wp2_with fail
  refine (KC.out _ J1).mono ?_
  rintro e w2 ⟨rfl, S2, A2, N2⟩
  have J2 := J1.code A2 N2
  have M2 := M1.trans (N2.left T)
  have KR2 := Lib.hid (KR.out w2 S2 _ J2)
  clear x0 x1 x2 x3 x4 xl J1 A2 N2 M1 KC KR
  obtain ⟨x0, x1, x2, x3, x4, _, xl⟩ := J2.bx.five
  go_wp2_with fail
  refine KR2.out.mono ?_
  rintro e w3 ⟨rfl, T3, R3, N3⟩
  have J3 := J2.ref R3 N3
  have M3 := M2.trans (N3.right S2)
  clear x0 x1 x2 x3 x4 xl J2 R3 N3 M2 KR2
  go_wp2_with fail
  go_ret
  exact step_end HD.out J3 M3

set_option maxRecDepth 100000 in
set_option maxHeartbeats 16000000 in
theorem step_join1 (K : Nat) (y : Gd) (G : Gr) (g r : Nat) (S T : Nat → Prop) (w : World) (hK : K ≤ 700) (hok : GOk G K) (hasc : Asc G.L) (hy : y.k = 1) (h1 : GA w g G S) (h2 : RA w r G T) (hd : ∀ k, S k → ¬ T k) :
    Calls Try.prog 13 #[.pointer (some ⟨g, 0, none⟩), .pointer (some ⟨r, 0, none⟩), gdV y] w (StepP g r (doesY G y) S T w) := by
  have HD := Lib.hid (show joinG G y.a = doesY G y from by unfold doesY; simp [hy])
  have HOK := Lib.hid hok
  have hlN := hok.len
  have ho1 := hok.o1
  have hal := balloc w (.cells (gdC y) 36)
  have hX := Whole.new w 36 (gdC y)
  have J1 : JJ (w.alloc (.cells (gdC y) 36)) g r G G S T w.heap.size 36 (gdC y) := ⟨h1.keep hal, h2.same (fun k hk _ => hal.block k hk), hd, hX, fun h => by have := h1.live _ h; omega, fun h => by have := h2.live _ h; omega⟩
  have M1 := Mvs.below (Un S T) hal
  have KC := Lib.hid (fun w' (J : JJ w' g r G G S T w.heap.size 36 (gdC y)) => join_ga K y.a G g S w' (by omega) HOK.out J.ga)
  have KR := Lib.hid (fun w' S' G' (J : JJ w' g r G' G S' T w.heap.size 36 (gdC y)) => rjoin_ra K y.a G r T w' (by omega) HOK.out J.ra)
  obtain ⟨yk, ya, yb, yp, yn⟩ := y
  simp only at hy
  unfold gdV gdC at *
  simp only at *
  clear h1 h2 hd hX hok hasc hal
  subst hy
  go_enter Try.func13, Try.ntmps13
  go_upto_region 1 with fail
  obtain ⟨w1, hw1⟩ : ∃ w1, w1 = w.alloc (.cells #[.int .i64 1, .int .i64 ya, .int .i64 yb, .int .i64 yp, .bool yn] 36) := ⟨_, rfl⟩
  rw [← hw1] at J1 M1 ⊢
  clear hw1
  obtain ⟨x0, x1, x2, x3, x4, _, xl⟩ := J1.bx.five
  unfold joinV at KC KR
  generalize joinI G ya = ei at *
  generalize joinN G ya = en at *
  generalize joinE G ya = ee at *
  generalize joinG G ya = G2 at *
  have eq1 : (ei == ei) = true := by simp
  have eq2 : (en == en) = true := by simp
  have eq3 : (ee == ee) = true := by simp
  go_wp2_with fail
  refine (KC.out _ J1).mono ?_
  rintro e w2 ⟨rfl, S2, A2, N2⟩
  have J2 := J1.code A2 N2
  have M2 := M1.trans (N2.left T)
  have KR2 := Lib.hid (KR.out w2 S2 _ J2)
  clear x0 x1 x2 x3 x4 xl J1 A2 N2 M1 KC KR
  obtain ⟨x0, x1, x2, x3, x4, _, xl⟩ := J2.bx.five
  go_wp2_with fail
  refine KR2.out.mono ?_
  rintro e w3 ⟨rfl, T3, R3, N3⟩
  have J3 := J2.ref R3 N3
  have M3 := M2.trans (N3.right S2)
  clear x0 x1 x2 x3 x4 xl J2 R3 N3 M2 KR2
  go_wp2_with fail
  go_ret
  exact step_end HD.out J3 M3

set_option maxRecDepth 100000 in
set_option maxHeartbeats 16000000 in
theorem step_sync (K : Nat) (y : Gd) (G : Gr) (g r : Nat) (S T : Nat → Prop) (w : World) (hK : K ≤ 700) (hok : GOk G K) (hasc : Asc G.L) (hy : y.k = 2) (h1 : GA w g G S) (h2 : RA w r G T) (hd : ∀ k, S k → ¬ T k) :
    Calls Try.prog 13 #[.pointer (some ⟨g, 0, none⟩), .pointer (some ⟨r, 0, none⟩), gdV y] w (StepP g r (doesY G y) S T w) := by
  have HD := Lib.hid (show syncG G y.a = doesY G y from by unfold doesY; simp [hy])
  have HOK := Lib.hid hok
  have hlN := hok.len
  have ho1 := hok.o1
  have hal := balloc w (.cells (gdC y) 36)
  have hX := Whole.new w 36 (gdC y)
  have J1 : JJ (w.alloc (.cells (gdC y) 36)) g r G G S T w.heap.size 36 (gdC y) := ⟨h1.keep hal, h2.same (fun k hk _ => hal.block k hk), hd, hX, fun h => by have := h1.live _ h; omega, fun h => by have := h2.live _ h; omega⟩
  have M1 := Mvs.below (Un S T) hal
  have KC := Lib.hid (fun w' (J : JJ w' g r G G S T w.heap.size 36 (gdC y)) => sync_ga2 K y.a G g S w' (by omega) HOK.out J.ga)
  have KR := Lib.hid (fun w' S' G' (J : JJ w' g r G' G S' T w.heap.size 36 (gdC y)) => rsync_ra K y.a G r T w' (by omega) HOK.out J.ra)
  obtain ⟨yk, ya, yb, yp, yn⟩ := y
  simp only at hy
  unfold gdV gdC at *
  simp only at *
  clear h1 h2 hd hX hok hasc hal
  subst hy
  go_enter Try.func13, Try.ntmps13
  go_upto_region 1 with fail
  obtain ⟨w1, hw1⟩ : ∃ w1, w1 = w.alloc (.cells #[.int .i64 2, .int .i64 ya, .int .i64 yb, .int .i64 yp, .bool yn] 36) := ⟨_, rfl⟩
  rw [← hw1] at J1 M1 ⊢
  clear hw1
  obtain ⟨x0, x1, x2, x3, x4, _, xl⟩ := J1.bx.five
  have hLl : (syncL G ya).length ≤ 100 := by
    unfold syncL
    split
    · have := ownTo_len G.O ya G.O.length; omega
    · simp
  have KS := Lib.hid (fun w a b c d ha hb => same_all (syncL G ya) a b c d w (by omega) ha hb)
  unfold SyncQ2 at KC
  unfold RSyncQ at KR
  generalize syncN G ya = en at *
  generalize syncE G ya = ee at *
  generalize syncG G ya = G2 at *
  generalize syncL G ya = LL at *
  have eq2 : (en == en) = true := by simp
  have eq3 : (ee == ee) = true := by simp
  go_wp2_with fail
  refine (KC.out _ J1).mono ?_
  rintro e w2 ⟨al, cl, rfl, S2, A2, N2, s2, hal2⟩
  have J2 := J1.code A2 N2
  have M2 := M1.trans (N2.left T)
  have KR2 := Lib.hid (KR.out w2 S2 _ J2)
  have HT1 := Lib.hid J1.ra.live
  have hoff : Off T al := fun x hx hT => by have := hal2 x hx; have := HT1.out _ hT; omega
  clear x0 x1 x2 x3 x4 xl J1 A2 N2 M1 KC KR
  obtain ⟨x0, x1, x2, x3, x4, _, xl⟩ := J2.bx.five
  go_wp2_with fail
  refine KR2.out.mono ?_
  rintro e w3 ⟨al3, cl3, rfl, T3, R3, N3, s3⟩
  have J3 := J2.ref R3 N3
  have M3 := M2.trans (N3.right S2)
  have s2' := s2.mvs N3 hoff
  clear x0 x1 x2 x3 x4 xl J2 R3 N3 M2 KR2
  go_wp2_with fail
  refine (KS.out _ _ _ _ _ s2' s3).mono ?_
  rintro e w4 ⟨rfl, b4⟩
  have J4 := J3.keep b4
  have M4 := M3.trans (Mvs.below _ b4)
  clear J3 M3
  go_wp2_with fail
  go_ret
  exact step_end HD.out J4 M4

set_option maxRecDepth 100000 in
set_option maxHeartbeats 16000000 in
theorem step_tick6 (K : Nat) (y : Gd) (G : Gr) (g r : Nat) (S T : Nat → Prop) (w : World) (hK : K ≤ 700) (hok : GOk G K) (hasc : Asc G.L) (hy : y.k = 6) (h1 : GA w g G S) (h2 : RA w r G T) (hd : ∀ k, S k → ¬ T k) :
    Calls Try.prog 13 #[.pointer (some ⟨g, 0, none⟩), .pointer (some ⟨r, 0, none⟩), gdV y] w (StepP g r (doesY G y) S T w) := by
  have HD := Lib.hid (show tickG G = doesY G y from by unfold doesY; simp [hy])
  have HOK := Lib.hid hok
  have hlN := hok.len
  have ho1 := hok.o1
  have hal := balloc w (.cells (gdC y) 36)
  have hX := Whole.new w 36 (gdC y)
  have J1 : JJ (w.alloc (.cells (gdC y) 36)) g r G G S T w.heap.size 36 (gdC y) := ⟨h1.keep hal, h2.same (fun k hk _ => hal.block k hk), hd, hX, fun h => by have := h1.live _ h; omega, fun h => by have := h2.live _ h; omega⟩
  have M1 := Mvs.below (Un S T) hal
  have KC := Lib.hid (fun w' (J : JJ w' g r G G S T w.heap.size 36 (gdC y)) => tick_ga K G g S w' (by omega) HOK.out J.ga)
  have KR := Lib.hid (fun w' S' G' (J : JJ w' g r G' G S' T w.heap.size 36 (gdC y)) => rtick_ra K G r T w' (by omega) HOK.out J.ra)
  obtain ⟨yk, ya, yb, yp, yn⟩ := y
  simp only at hy
  unfold gdV gdC at *
  simp only at *
  clear h1 h2 hd hX hok hasc hal
  subst hy
  go_enter Try.func13, Try.ntmps13
  go_upto_region 1 with fail
  obtain ⟨w1, hw1⟩ : ∃ w1, w1 = w.alloc (.cells #[.int .i64 6, .int .i64 ya, .int .i64 yb, .int .i64 yp, .bool yn] 36) := ⟨_, rfl⟩
  rw [← hw1] at J1 M1 ⊢
  clear hw1
  obtain ⟨x0, x1, x2, x3, x4, _, xl⟩ := J1.bx.five
  generalize tickG G = G2 at *
  generalize tickB G = tb at *
  have eq1 : (tb == tb) = true := by simp
  go_wp2_with fail
  refine (KC.out _ J1).mono ?_
  rintro e w2 ⟨rfl, S2, A2, N2⟩
  have J2 := J1.code A2 N2
  have M2 := M1.trans (N2.left T)
  have KR2 := Lib.hid (KR.out w2 S2 _ J2)
  clear x0 x1 x2 x3 x4 xl J1 A2 N2 M1 KC KR
  obtain ⟨x0, x1, x2, x3, x4, _, xl⟩ := J2.bx.five
  go_wp2_with fail
  refine KR2.out.mono ?_
  rintro e w3 ⟨rfl, T3, R3, N3⟩
  have J3 := J2.ref R3 N3
  have M3 := M2.trans (N3.right S2)
  clear x0 x1 x2 x3 x4 xl J2 R3 N3 M2 KR2
  go_wp2_with fail
  go_ret
  exact step_end HD.out J3 M3

set_option maxRecDepth 100000 in
set_option maxHeartbeats 16000000 in
theorem step_tick7 (K : Nat) (y : Gd) (G : Gr) (g r : Nat) (S T : Nat → Prop) (w : World) (hK : K ≤ 700) (hok : GOk G K) (hasc : Asc G.L) (hy : y.k = 7) (h1 : GA w g G S) (h2 : RA w r G T) (hd : ∀ k, S k → ¬ T k) :
    Calls Try.prog 13 #[.pointer (some ⟨g, 0, none⟩), .pointer (some ⟨r, 0, none⟩), gdV y] w (StepP g r (doesY G y) S T w) := by
  have HD := Lib.hid (show tickG G = doesY G y from by unfold doesY; simp [hy])
  have HOK := Lib.hid hok
  have hlN := hok.len
  have ho1 := hok.o1
  have hal := balloc w (.cells (gdC y) 36)
  have hX := Whole.new w 36 (gdC y)
  have J1 : JJ (w.alloc (.cells (gdC y) 36)) g r G G S T w.heap.size 36 (gdC y) := ⟨h1.keep hal, h2.same (fun k hk _ => hal.block k hk), hd, hX, fun h => by have := h1.live _ h; omega, fun h => by have := h2.live _ h; omega⟩
  have M1 := Mvs.below (Un S T) hal
  have KC := Lib.hid (fun w' (J : JJ w' g r G G S T w.heap.size 36 (gdC y)) => tick_ga K G g S w' (by omega) HOK.out J.ga)
  have KR := Lib.hid (fun w' S' G' (J : JJ w' g r G' G S' T w.heap.size 36 (gdC y)) => rtick_ra K G r T w' (by omega) HOK.out J.ra)
  obtain ⟨yk, ya, yb, yp, yn⟩ := y
  simp only at hy
  unfold gdV gdC at *
  simp only at *
  clear h1 h2 hd hX hok hasc hal
  subst hy
  go_enter Try.func13, Try.ntmps13
  go_upto_region 1 with fail
  obtain ⟨w1, hw1⟩ : ∃ w1, w1 = w.alloc (.cells #[.int .i64 7, .int .i64 ya, .int .i64 yb, .int .i64 yp, .bool yn] 36) := ⟨_, rfl⟩
  rw [← hw1] at J1 M1 ⊢
  clear hw1
  obtain ⟨x0, x1, x2, x3, x4, _, xl⟩ := J1.bx.five
  generalize tickG G = G2 at *
  generalize tickB G = tb at *
  have eq1 : (tb == tb) = true := by simp
  go_wp2_with fail
  refine (KC.out _ J1).mono ?_
  rintro e w2 ⟨rfl, S2, A2, N2⟩
  have J2 := J1.code A2 N2
  have M2 := M1.trans (N2.left T)
  have KR2 := Lib.hid (KR.out w2 S2 _ J2)
  clear x0 x1 x2 x3 x4 xl J1 A2 N2 M1 KC KR
  obtain ⟨x0, x1, x2, x3, x4, _, xl⟩ := J2.bx.five
  go_wp2_with fail
  refine KR2.out.mono ?_
  rintro e w3 ⟨rfl, T3, R3, N3⟩
  have J3 := J2.ref R3 N3
  have M3 := M2.trans (N3.right S2)
  clear x0 x1 x2 x3 x4 xl J2 R3 N3 M2 KR2
  go_wp2_with fail
  go_ret
  exact step_end HD.out J3 M3

set_option maxRecDepth 100000 in
set_option maxHeartbeats 16000000 in
theorem step_tick8 (K : Nat) (y : Gd) (G : Gr) (g r : Nat) (S T : Nat → Prop) (w : World) (hK : K ≤ 700) (hok : GOk G K) (hasc : Asc G.L) (hy : y.k = 8) (h1 : GA w g G S) (h2 : RA w r G T) (hd : ∀ k, S k → ¬ T k) :
    Calls Try.prog 13 #[.pointer (some ⟨g, 0, none⟩), .pointer (some ⟨r, 0, none⟩), gdV y] w (StepP g r (doesY G y) S T w) := by
  have HD := Lib.hid (show tickG G = doesY G y from by unfold doesY; simp [hy])
  have HOK := Lib.hid hok
  have hlN := hok.len
  have ho1 := hok.o1
  have hal := balloc w (.cells (gdC y) 36)
  have hX := Whole.new w 36 (gdC y)
  have J1 : JJ (w.alloc (.cells (gdC y) 36)) g r G G S T w.heap.size 36 (gdC y) := ⟨h1.keep hal, h2.same (fun k hk _ => hal.block k hk), hd, hX, fun h => by have := h1.live _ h; omega, fun h => by have := h2.live _ h; omega⟩
  have M1 := Mvs.below (Un S T) hal
  have KC := Lib.hid (fun w' (J : JJ w' g r G G S T w.heap.size 36 (gdC y)) => tick_ga K G g S w' (by omega) HOK.out J.ga)
  have KR := Lib.hid (fun w' S' G' (J : JJ w' g r G' G S' T w.heap.size 36 (gdC y)) => rtick_ra K G r T w' (by omega) HOK.out J.ra)
  obtain ⟨yk, ya, yb, yp, yn⟩ := y
  simp only at hy
  unfold gdV gdC at *
  simp only at *
  clear h1 h2 hd hX hok hasc hal
  subst hy
  go_enter Try.func13, Try.ntmps13
  go_upto_region 1 with fail
  obtain ⟨w1, hw1⟩ : ∃ w1, w1 = w.alloc (.cells #[.int .i64 8, .int .i64 ya, .int .i64 yb, .int .i64 yp, .bool yn] 36) := ⟨_, rfl⟩
  rw [← hw1] at J1 M1 ⊢
  clear hw1
  obtain ⟨x0, x1, x2, x3, x4, _, xl⟩ := J1.bx.five
  generalize tickG G = G2 at *
  generalize tickB G = tb at *
  have eq1 : (tb == tb) = true := by simp
  go_wp2_with fail
  refine (KC.out _ J1).mono ?_
  rintro e w2 ⟨rfl, S2, A2, N2⟩
  have J2 := J1.code A2 N2
  have M2 := M1.trans (N2.left T)
  have KR2 := Lib.hid (KR.out w2 S2 _ J2)
  clear x0 x1 x2 x3 x4 xl J1 A2 N2 M1 KC KR
  obtain ⟨x0, x1, x2, x3, x4, _, xl⟩ := J2.bx.five
  go_wp2_with fail
  refine KR2.out.mono ?_
  rintro e w3 ⟨rfl, T3, R3, N3⟩
  have J3 := J2.ref R3 N3
  have M3 := M2.trans (N3.right S2)
  clear x0 x1 x2 x3 x4 xl J2 R3 N3 M2 KR2
  go_wp2_with fail
  go_ret
  exact step_end HD.out J3 M3

set_option maxRecDepth 100000 in
set_option maxHeartbeats 16000000 in
theorem step_beat3 (K : Nat) (y : Gd) (G : Gr) (g r : Nat) (S T : Nat → Prop) (w : World) (hK : K ≤ 700) (hok : GOk G K) (hasc : Asc G.L) (hy : y.k = 3) (h1 : GA w g G S) (h2 : RA w r G T) (hd : ∀ k, S k → ¬ T k) :
    Calls Try.prog 13 #[.pointer (some ⟨g, 0, none⟩), .pointer (some ⟨r, 0, none⟩), gdV y] w (StepP g r (doesY G y) S T w) := by
  have HD := Lib.hid (show beatG G y.a y.b = doesY G y from by unfold doesY; simp [hy])
  have HOK := Lib.hid hok
  have hlN := hok.len
  have ho1 := hok.o1
  have hal := balloc w (.cells (gdC y) 36)
  have hX := Whole.new w 36 (gdC y)
  have J1 : JJ (w.alloc (.cells (gdC y) 36)) g r G G S T w.heap.size 36 (gdC y) := ⟨h1.keep hal, h2.same (fun k hk _ => hal.block k hk), hd, hX, fun h => by have := h1.live _ h; omega, fun h => by have := h2.live _ h; omega⟩
  have M1 := Mvs.below (Un S T) hal
  have KC := Lib.hid (fun w' H' T' (J : JJ w' g r G H' S T' w.heap.size 36 (gdC y)) => beat_ga K y.a y.b G g S w' (by omega) HOK.out J.ga)
  have KR := Lib.hid (fun w' G' S' (J : JJ w' g r G' G S' T w.heap.size 36 (gdC y)) => rbeat_ra K y.a y.b G r T w' (by omega) HOK.out J.ra)
  obtain ⟨yk, ya, yb, yp, yn⟩ := y
  simp only at hy
  unfold gdV gdC at *
  simp only at *
  clear h1 h2 hd hX hok hasc hal
  subst hy
  go_enter Try.func13, Try.ntmps13
  go_upto_region 1 with fail
  obtain ⟨w1, hw1⟩ : ∃ w1, w1 = w.alloc (.cells #[.int .i64 3, .int .i64 ya, .int .i64 yb, .int .i64 yp, .bool yn] 36) := ⟨_, rfl⟩
  rw [← hw1] at J1 M1 ⊢
  clear hw1
  obtain ⟨x0, x1, x2, x3, x4, _, xl⟩ := J1.bx.five
  unfold GQ at KC
  unfold RQ at KR
  generalize beatG G ya yb = G2 at *
  generalize beatE G ya yb = ee at *
  have eq1 : (ee == ee) = true := by simp
  have J1d := J1.keep (below_drewN _ w1 1)
  have M1d := M1.trans (Mvs.below _ (below_drewN _ w1 1))
  have J1e : JJ w1.drew g r G G S T w.heap.size 36 _ := J1d
  have M1e : Mvs w w1.drew (Un S T) (Un S T) := M1d
  clear J1d M1d J1 M1
  go_wp2_with fail
  have hS0 : w1.drew.cell? ⟨w.heap.size, 1, none⟩ = some (.int .i64 ya) ∧ w1.drew.cell? ⟨w.heap.size, 2, none⟩ = some (.int .i64 yb) ∧ w1.drew.cell? ⟨w.heap.size, 3, none⟩ = some (.int .i64 yp) := ⟨x1, x2, x3⟩
  go_region_held3 (fun w' => w'.cell? ⟨w.heap.size, 1, none⟩ = some (.int .i64 ya) ∧ w'.cell? ⟨w.heap.size, 2, none⟩ = some (.int .i64 yb) ∧ w'.cell? ⟨w.heap.size, 3, none⟩ = some (.int .i64 yp))
    (first | with_reducible assumption | assumption)
    (first
    | (go_at_call 26; refine (KC.out _ _ _ (by assumption)).mono ?_; rintro e w2 ⟨rfl, S2, A2, N2⟩; have jc := JJ.code (by assumption) A2 N2; have mc := Mvs.trans (by assumption) (N2.left _); have yc := And.intro jc.bx.five.2.1 (And.intro jc.bx.five.2.2.1 jc.bx.five.2.2.2.1))
    | (go_at_call 32; refine (KR.out _ _ _ (by assumption)).mono ?_; rintro e w3 ⟨rfl, T3, R3, N3⟩; have jr := JJ.ref (by assumption) R3 N3; have mr := Mvs.trans (by assumption) (N3.right _); have yr := And.intro jr.bx.five.2.1 (And.intro jr.bx.five.2.2.1 jr.bx.five.2.2.2.1)))
  all_goals
    first
      | (clear x0 x1 x2 x3 x4 xl; go_wp2_with fail; go_ret; exact step_end HD.out (by first | exact jr | exact jc) (by first | exact mr | exact mc))

set_option maxRecDepth 100000 in
set_option maxHeartbeats 16000000 in
theorem step_beat4 (K : Nat) (y : Gd) (G : Gr) (g r : Nat) (S T : Nat → Prop) (w : World) (hK : K ≤ 700) (hok : GOk G K) (hasc : Asc G.L) (hy : y.k = 4) (h1 : GA w g G S) (h2 : RA w r G T) (hd : ∀ k, S k → ¬ T k) :
    Calls Try.prog 13 #[.pointer (some ⟨g, 0, none⟩), .pointer (some ⟨r, 0, none⟩), gdV y] w (StepP g r (doesY G y) S T w) := by
  have HD := Lib.hid (show beatG G y.a y.b = doesY G y from by unfold doesY; simp [hy])
  have HOK := Lib.hid hok
  have hlN := hok.len
  have ho1 := hok.o1
  have hal := balloc w (.cells (gdC y) 36)
  have hX := Whole.new w 36 (gdC y)
  have J1 : JJ (w.alloc (.cells (gdC y) 36)) g r G G S T w.heap.size 36 (gdC y) := ⟨h1.keep hal, h2.same (fun k hk _ => hal.block k hk), hd, hX, fun h => by have := h1.live _ h; omega, fun h => by have := h2.live _ h; omega⟩
  have M1 := Mvs.below (Un S T) hal
  have KC := Lib.hid (fun w' H' T' (J : JJ w' g r G H' S T' w.heap.size 36 (gdC y)) => beat_ga K y.a y.b G g S w' (by omega) HOK.out J.ga)
  have KR := Lib.hid (fun w' G' S' (J : JJ w' g r G' G S' T w.heap.size 36 (gdC y)) => rbeat_ra K y.a y.b G r T w' (by omega) HOK.out J.ra)
  obtain ⟨yk, ya, yb, yp, yn⟩ := y
  simp only at hy
  unfold gdV gdC at *
  simp only at *
  clear h1 h2 hd hX hok hasc hal
  subst hy
  go_enter Try.func13, Try.ntmps13
  go_upto_region 1 with fail
  obtain ⟨w1, hw1⟩ : ∃ w1, w1 = w.alloc (.cells #[.int .i64 4, .int .i64 ya, .int .i64 yb, .int .i64 yp, .bool yn] 36) := ⟨_, rfl⟩
  rw [← hw1] at J1 M1 ⊢
  clear hw1
  obtain ⟨x0, x1, x2, x3, x4, _, xl⟩ := J1.bx.five
  unfold GQ at KC
  unfold RQ at KR
  generalize beatG G ya yb = G2 at *
  generalize beatE G ya yb = ee at *
  have eq1 : (ee == ee) = true := by simp
  have J1d := J1.keep (below_drewN _ w1 1)
  have M1d := M1.trans (Mvs.below _ (below_drewN _ w1 1))
  have J1e : JJ w1.drew g r G G S T w.heap.size 36 _ := J1d
  have M1e : Mvs w w1.drew (Un S T) (Un S T) := M1d
  clear J1d M1d J1 M1
  go_wp2_with fail
  have hS0 : w1.drew.cell? ⟨w.heap.size, 1, none⟩ = some (.int .i64 ya) ∧ w1.drew.cell? ⟨w.heap.size, 2, none⟩ = some (.int .i64 yb) ∧ w1.drew.cell? ⟨w.heap.size, 3, none⟩ = some (.int .i64 yp) := ⟨x1, x2, x3⟩
  go_region_held3 (fun w' => w'.cell? ⟨w.heap.size, 1, none⟩ = some (.int .i64 ya) ∧ w'.cell? ⟨w.heap.size, 2, none⟩ = some (.int .i64 yb) ∧ w'.cell? ⟨w.heap.size, 3, none⟩ = some (.int .i64 yp))
    (first | with_reducible assumption | assumption)
    (first
    | (go_at_call 26; refine (KC.out _ _ _ (by assumption)).mono ?_; rintro e w2 ⟨rfl, S2, A2, N2⟩; have jc := JJ.code (by assumption) A2 N2; have mc := Mvs.trans (by assumption) (N2.left _); have yc := And.intro jc.bx.five.2.1 (And.intro jc.bx.five.2.2.1 jc.bx.five.2.2.2.1))
    | (go_at_call 32; refine (KR.out _ _ _ (by assumption)).mono ?_; rintro e w3 ⟨rfl, T3, R3, N3⟩; have jr := JJ.ref (by assumption) R3 N3; have mr := Mvs.trans (by assumption) (N3.right _); have yr := And.intro jr.bx.five.2.1 (And.intro jr.bx.five.2.2.1 jr.bx.five.2.2.2.1)))
  all_goals
    first
      | (clear x0 x1 x2 x3 x4 xl; go_wp2_with fail; go_ret; exact step_end HD.out (by first | exact jr | exact jc) (by first | exact mr | exact mc))

set_option maxRecDepth 100000 in
set_option maxHeartbeats 16000000 in
theorem step_leave (K : Nat) (y : Gd) (G : Gr) (g r : Nat) (S T : Nat → Prop) (w : World) (hK : K ≤ 700) (hok : GOk G K) (hasc : Asc G.L) (hy : y.k = 5) (h1 : GA w g G S) (h2 : RA w r G T) (hd : ∀ k, S k → ¬ T k) :
    Calls Try.prog 13 #[.pointer (some ⟨g, 0, none⟩), .pointer (some ⟨r, 0, none⟩), gdV y] w (StepP g r (doesY G y) S T w) := by
  have HD := Lib.hid (show leaveG G y.a = doesY G y from by unfold doesY; simp [hy])
  have HOK := Lib.hid hok
  have hlN := hok.len
  have ho1 := hok.o1
  have hal := balloc w (.cells (gdC y) 36)
  have hX := Whole.new w 36 (gdC y)
  have J1 : JJ (w.alloc (.cells (gdC y) 36)) g r G G S T w.heap.size 36 (gdC y) := ⟨h1.keep hal, h2.same (fun k hk _ => hal.block k hk), hd, hX, fun h => by have := h1.live _ h; omega, fun h => by have := h2.live _ h; omega⟩
  have M1 := Mvs.below (Un S T) hal
  have KC := Lib.hid (fun w' H' T' (J : JJ w' g r G H' S T' w.heap.size 36 (gdC y)) => leave_ga K y.a G g S w' (by omega) HOK.out J.ga)
  have KR := Lib.hid (fun w' G' S' (J : JJ w' g r G' G S' T w.heap.size 36 (gdC y)) => rleave_ra K y.a G r T w' (by omega) HOK.out hasc J.ra)
  obtain ⟨yk, ya, yb, yp, yn⟩ := y
  simp only at hy
  unfold gdV gdC at *
  simp only at *
  clear h1 h2 hd hX hok hasc hal
  subst hy
  go_enter Try.func13, Try.ntmps13
  go_upto_region 1 with fail
  obtain ⟨w1, hw1⟩ : ∃ w1, w1 = w.alloc (.cells #[.int .i64 5, .int .i64 ya, .int .i64 yb, .int .i64 yp, .bool yn] 36) := ⟨_, rfl⟩
  rw [← hw1] at J1 M1 ⊢
  clear hw1
  obtain ⟨x0, x1, x2, x3, x4, _, xl⟩ := J1.bx.five
  unfold GQ at KC
  unfold RQ at KR
  generalize leaveG G ya = G2 at *
  generalize leaveE G ya = ee at *
  have eq1 : (ee == ee) = true := by simp
  have J1d := J1.keep (below_drewN _ w1 1)
  have M1d := M1.trans (Mvs.below _ (below_drewN _ w1 1))
  have J1e : JJ w1.drew g r G G S T w.heap.size 36 _ := J1d
  have M1e : Mvs w w1.drew (Un S T) (Un S T) := M1d
  clear J1d M1d J1 M1
  go_wp2_with fail
  have hS0 : w1.drew.cell? ⟨w.heap.size, 1, none⟩ = some (.int .i64 ya) ∧ w1.drew.cell? ⟨w.heap.size, 2, none⟩ = some (.int .i64 yb) ∧ w1.drew.cell? ⟨w.heap.size, 3, none⟩ = some (.int .i64 yp) := ⟨x1, x2, x3⟩
  go_region_held3 (fun w' => w'.cell? ⟨w.heap.size, 1, none⟩ = some (.int .i64 ya) ∧ w'.cell? ⟨w.heap.size, 2, none⟩ = some (.int .i64 yb) ∧ w'.cell? ⟨w.heap.size, 3, none⟩ = some (.int .i64 yp))
    (first | with_reducible assumption | assumption)
    (first
    | (go_at_call 27; refine (KC.out _ _ _ (by assumption)).mono ?_; rintro e w2 ⟨rfl, S2, A2, N2⟩; have jc := JJ.code (by assumption) A2 N2; have mc := Mvs.trans (by assumption) (N2.left _); have yc := And.intro jc.bx.five.2.1 (And.intro jc.bx.five.2.2.1 jc.bx.five.2.2.2.1))
    | (go_at_call 33; refine (KR.out _ _ _ (by assumption)).mono ?_; rintro e w3 ⟨rfl, T3, R3, N3⟩; have jr := JJ.ref (by assumption) R3 N3; have mr := Mvs.trans (by assumption) (N3.right _); have yr := And.intro jr.bx.five.2.1 (And.intro jr.bx.five.2.2.1 jr.bx.five.2.2.2.1)))
  all_goals
    first
      | (clear x0 x1 x2 x3 x4 xl; go_wp2_with fail; go_ret; exact step_end HD.out (by first | exact jr | exact jc) (by first | exact mr | exact mc))

set_option maxRecDepth 100000 in
set_option maxHeartbeats 16000000 in
theorem step_may (K : Nat) (y : Gd) (G : Gr) (g r : Nat) (S T : Nat → Prop) (w : World) (hK : K ≤ 700) (hok : GOk G K) (hasc : Asc G.L) (hy : ¬ y.k = 0 ∧ ¬ y.k = 1 ∧ ¬ y.k = 2 ∧ ¬ y.k = 3 ∧ ¬ y.k = 4 ∧ ¬ y.k = 5 ∧ ¬ y.k = 6 ∧ ¬ y.k = 7 ∧ ¬ y.k = 8) (h1 : GA w g G S) (h2 : RA w r G T) (hd : ∀ k, S k → ¬ T k) :
    Calls Try.prog 13 #[.pointer (some ⟨g, 0, none⟩), .pointer (some ⟨r, 0, none⟩), gdV y] w (StepP g r (doesY G y) S T w) := by
  have HD := Lib.hid (show G = doesY G y from by unfold doesY; simp [hy.1, hy.2.1, hy.2.2.1, hy.2.2.2.1, hy.2.2.2.2.1, hy.2.2.2.2.2.1, hy.2.2.2.2.2.2.1, hy.2.2.2.2.2.2.2.1, hy.2.2.2.2.2.2.2.2])
  have HOK := Lib.hid hok
  have hlN := hok.len
  have ho1 := hok.o1
  have hal := balloc w (.cells (gdC y) 36)
  have hX := Whole.new w 36 (gdC y)
  have J1 : JJ (w.alloc (.cells (gdC y) 36)) g r G G S T w.heap.size 36 (gdC y) := ⟨h1.keep hal, h2.same (fun k hk _ => hal.block k hk), hd, hX, fun h => by have := h1.live _ h; omega, fun h => by have := h2.live _ h; omega⟩
  have M1 := Mvs.below (Un S T) hal
  have KC := Lib.hid (fun w' H' T' (J : JJ w' g r G H' S T' w.heap.size 36 (gdC y)) => may_ga K y.a y.b y.p G g S w' (by omega) HOK.out J.ga)
  have KR := Lib.hid (fun w' G' S' (J : JJ w' g r G' G S' T w.heap.size 36 (gdC y)) => rmay_ra K y.a y.b y.p G r T w' (by omega) HOK.out J.ra)
  obtain ⟨yk, ya, yb, yp, yn⟩ := y
  simp only at hy
  unfold gdV gdC at *
  simp only at *
  clear h1 h2 hd hX hok hasc hal
  obtain ⟨k0, k1, k2, k3, k4, k5, k6, k7, k8⟩ := hy
  have b0 : (yk == 0) = false := by simpa using k0
  have b1 : (yk == 1) = false := by simpa using k1
  have b2 : (yk == 2) = false := by simpa using k2
  have b3 : (yk == 3) = false := by simpa using k3
  have b4 : (yk == 4) = false := by simpa using k4
  have b5 : (yk == 5) = false := by simpa using k5
  have b6 : (yk == 6) = false := by simpa using k6
  have b7 : (yk == 7) = false := by simpa using k7
  have b8 : (yk == 8) = false := by simpa using k8
  clear k0 k1 k2 k3 k4 k5 k6 k7 k8
  go_enter Try.func13, Try.ntmps13
  go_upto_region 1 with fail
  obtain ⟨w1, hw1⟩ : ∃ w1, w1 = w.alloc (.cells #[.int .i64 yk, .int .i64 ya, .int .i64 yb, .int .i64 yp, .bool yn] 36) := ⟨_, rfl⟩
  rw [← hw1] at J1 M1 ⊢
  clear hw1
  obtain ⟨x0, x1, x2, x3, x4, _, xl⟩ := J1.bx.five
  generalize mayE G ya yb yp = ee at *
  have eq1 : (ee == ee) = true := by simp
  have J1d := J1.keep (below_drewN _ w1 1)
  have M1d := M1.trans (Mvs.below _ (below_drewN _ w1 1))
  have J1e : JJ w1.drew g r G G S T w.heap.size 36 _ := J1d
  have M1e : Mvs w w1.drew (Un S T) (Un S T) := M1d
  clear J1d M1d J1 M1
  go_wp2_with fail
  have hS0 : w1.drew.cell? ⟨w.heap.size, 1, none⟩ = some (.int .i64 ya) ∧ w1.drew.cell? ⟨w.heap.size, 2, none⟩ = some (.int .i64 yb) ∧ w1.drew.cell? ⟨w.heap.size, 3, none⟩ = some (.int .i64 yp) := ⟨x1, x2, x3⟩
  go_region_held3 (fun w' => w'.cell? ⟨w.heap.size, 1, none⟩ = some (.int .i64 ya) ∧ w'.cell? ⟨w.heap.size, 2, none⟩ = some (.int .i64 yb) ∧ w'.cell? ⟨w.heap.size, 3, none⟩ = some (.int .i64 yp))
    (first | with_reducible assumption | assumption)
    (first
    | (go_at_call 21; refine (KC.out _ _ _ (by assumption)).mono ?_; rintro e w2 ⟨rfl, N2⟩; have jc := JJ.keep (by assumption) N2; have mc := Mvs.trans (by assumption) (Mvs.below _ N2); have yc := And.intro jc.bx.five.2.1 (And.intro jc.bx.five.2.2.1 jc.bx.five.2.2.2.1))
    | (go_at_call 35; refine (KR.out _ _ _ (by assumption)).mono ?_; rintro e w3 ⟨rfl, N3⟩; have jr := JJ.keep (by assumption) N3; have mr := Mvs.trans (by assumption) (Mvs.below _ N3); have yr := And.intro jr.bx.five.2.1 (And.intro jr.bx.five.2.2.1 jr.bx.five.2.2.2.1)))
  all_goals
    first
      | (clear x0 x1 x2 x3 x4 xl; go_wp2_with fail; go_ret; exact step_end HD.out (by first | exact jr | exact jc) (by first | exact mr | exact mc))

theorem step_walk (K : Nat) (y : Gd) (G : Gr) (g r : Nat) (S T : Nat → Prop) (w : World) (hK : K ≤ 700) (hok : GOk G K) (hasc : Asc G.L) (h1 : GA w g G S) (h2 : RA w r G T) (hd : ∀ k, S k → ¬ T k) :
    Calls Try.prog 13 #[.pointer (some ⟨g, 0, none⟩), .pointer (some ⟨r, 0, none⟩), gdV y] w (StepP g r (doesY G y) S T w) := by
  rcases (show y.k = 0 ∨ y.k = 1 ∨ y.k = 2 ∨ y.k = 3 ∨ y.k = 4 ∨ y.k = 5 ∨ y.k = 6 ∨ y.k = 7 ∨ y.k = 8 ∨ (¬ y.k = 0 ∧ ¬ y.k = 1 ∧ ¬ y.k = 2 ∧ ¬ y.k = 3 ∧ ¬ y.k = 4 ∧ ¬ y.k = 5 ∧ ¬ y.k = 6 ∧ ¬ y.k = 7 ∧ ¬ y.k = 8) by omega) with hk | hk | hk | hk | hk | hk | hk | hk | hk | hk
  · exact step_join0 K y G g r S T w hK hok hasc hk h1 h2 hd
  · exact step_join1 K y G g r S T w hK hok hasc hk h1 h2 hd
  · exact step_sync K y G g r S T w hK hok hasc hk h1 h2 hd
  · exact step_beat3 K y G g r S T w hK hok hasc hk h1 h2 hd
  · exact step_beat4 K y G g r S T w hK hok hasc hk h1 h2 hd
  · exact step_leave K y G g r S T w hK hok hasc hk h1 h2 hd
  · exact step_tick6 K y G g r S T w hK hok hasc hk h1 h2 hd
  · exact step_tick7 K y G g r S T w hK hok hasc hk h1 h2 hd
  · exact step_tick8 K y G g r S T w hK hok hasc hk h1 h2 hd
  · exact step_may K y G g r S T w hK hok hasc hk h1 h2 hd
end Go.Proofs.Ytocmhmfaehnliaa
