/- The walk of headgatelaw10.does. -/
import Derived.Test.YtocmhmfaehnliaaGrAim
import Derived.Deep.CutRange
import Derived.Deep.RegionWith
namespace Go.Proofs.Ytocmhmfaehnliaa
open Go.RowKit Vm As
set_option linter.unusedVariables false
set_option linter.unusedSimpArgs false

def doesY (G : Gr) (y : Gd) : Gr := if y.k = 0 ∨ y.k = 1 then joinG G y.a else if y.k = 2 then syncG G y.a else if y.k = 3 ∨ y.k = 4 then beatG G y.a y.b else if y.k = 5 then leaveG G y.a else if y.k = 6 ∨ y.k = 7 ∨ y.k = 8 then tickG G else G
def doesG (G : Gr) (x : Gd) : Gr := doesY G (aimF x G.L G.g)
theorem doesY_ok {G : Gr} {K : Nat} {y : Gd} (h : GOk G K) : GOk (doesY G y) (K + 1) := by
  unfold doesY
  split
  · exact joinG_ok h
  · split
    · exact (syncG_ok h).more (by omega)
    · split
      · exact (beatG_ok h).more (by omega)
      · split
        · exact (leaveG_ok h).more (by omega)
        · split
          · exact tickG_ok h
          · exact h.more (by omega)
def DoQ (g : Nat) (S : Nat → Prop) (G' : Gr) (w : World) (e : Ending) (w' : World) : Prop := e = .returned (.tuple #[]) ∧ ∃ S', GA w' g G' S' ∧ Mvs w w' S S'
theorem GQ.does {g : Nat} {S : Nat → Prop} {G' : Gr} {w w1 w' : World} (hm : Mvs w w1 S S) (h : ∃ S', GA w' g G' S' ∧ Mvs w1 w' S S') : ∃ S', GA w' g G' S' ∧ Mvs w w' S S' := by
  obtain ⟨S', h1, h2⟩ := h
  exact ⟨S', h1, hm.trans h2⟩
theorem box5_ga {w w1 w5 : World} {g : Nat} {G : Gr} {S : Nat → Prop} {t : TypeId} {a b c d e : Value} (hA : GA w g G S) (hal : Below w.heap.size w w1) (hX : Whole w1 w.heap.size t #[a, b, c, d, e]) (h5 : Below w1.heap.size w1 w5) (x y z u v : Value) :
    GA (((((w5.setCell ⟨w.heap.size, 0, none⟩ x).setCell ⟨w.heap.size, 1, none⟩ y).setCell ⟨w.heap.size, 2, none⟩ z).setCell ⟨w.heap.size, 3, none⟩ u).setCell ⟨w.heap.size, 4, none⟩ v) g G S ∧
    Whole (((((w5.setCell ⟨w.heap.size, 0, none⟩ x).setCell ⟨w.heap.size, 1, none⟩ y).setCell ⟨w.heap.size, 2, none⟩ z).setCell ⟨w.heap.size, 3, none⟩ u).setCell ⟨w.heap.size, 4, none⟩ v) w.heap.size t #[x, y, z, u, v] ∧
    Mvs w (((((w5.setCell ⟨w.heap.size, 0, none⟩ x).setCell ⟨w.heap.size, 1, none⟩ y).setCell ⟨w.heap.size, 2, none⟩ z).setCell ⟨w.heap.size, 3, none⟩ u).setCell ⟨w.heap.size, 4, none⟩ v) S S := by
  obtain ⟨W, B⟩ := st5 (hX.keep h5) x y z u v
  have hB := (gtrans hal h5).trans (B w.heap.size (Nat.le_refl _))
  exact ⟨hA.keep hB, W, Mvs.below S hB⟩
set_option maxRecDepth 100000 in
set_option maxHeartbeats 8000000 in
theorem does_walk (K : Nat) (x : Gd) (G : Gr) (g : Nat) (S : Nat → Prop) (w : World) (hK : K ≤ 700) (hok : GOk G K) (h : GA w g G S) :
    Calls Try.prog 16 #[.pointer (some ⟨g, 0, none⟩), gdV x] w (DoQ g S (doesG G x) w) := by
  have HOK := Lib.hid hok
  have hlN := hok.len
  have hX := Whole.new w 36 (gdC x)
  have hal := balloc w (.cells (gdC x) 36)
  have A1 := h.keep hal
  have H0 := Lib.hid h
  obtain ⟨N, hN⟩ : ∃ N, G.L.length = N := ⟨_, rfl⟩
  have HN := Lib.hid hN
  rw [hN] at hlN
  unfold doesG
  obtain ⟨k, q, b, p, nn⟩ := x
  obtain ⟨⟨yk, ya, yb, yp, yn⟩, hy⟩ : ∃ y, aimF ⟨k, q, b, p, nn⟩ G.L G.g = y := ⟨_, rfl⟩
  rw [hy]
  have HY := Lib.hid hy
  unfold gdV gdC at *
  simp only at *
  clear hok h hN hy
  go_enter Try.func16, Try.ntmps16
  go_upto_region 1 with fail
  obtain ⟨w1, hw1⟩ : ∃ w1, w1 = w.alloc (.cells #[.int .i64 k, .int .i64 q, .int .i64 b, .int .i64 p, .bool nn] 36) := ⟨_, rfl⟩
  rw [← hw1] at hX hal A1 ⊢
  clear hw1
  have KM := Lib.hid (fun w' (y : Below w1.heap.size w1 w') => members_ga G g S w' (by rw [HN.out]; omega) (A1.keep y))
  unfold RowQ at KM
  have KG := Lib.hid (fun w' (y : Below w1.heap.size w1 w') => gen_ga G g S w' (A1.keep y))
  rw [HN.out] at KM
  have KA := Lib.hid (fun w' a c (hs : Sl w' w'.heap.size a (mbCells G.L)) => aimed_walk ⟨k, q, b, p, nn⟩ G.L G.g N a c w' HN.out (by omega) hs)
  rw [HY.out] at KA
  unfold AimPost gdV at KA
  simp only at KA
  have y0 : Below w1.heap.size w1 w1.drew := (Below.refl _ _).drew
  have q5 := hX.five
  obtain ⟨x0, x1, x2, x3, x4, xf, xl⟩ := q5
  have HX := Lib.hid hX
  have HA := Lib.hid A1
  clear A1 hX xf
  generalize G.g = gg at *
  go_cut [] from 4 to 9 (fun wx => GA wx g G S ∧ Whole wx w.heap.size 36 #[.int .i64 yk, .int .i64 ya, .int .i64 yb, .int .i64 yp, .bool yn] ∧ Mvs w wx S S)
  case first =>
    go_region_with (first
      | (go_at_call 17; refine (KM.out _ (by with_reducible assumption)).mono ?_; rintro e w3 ⟨a3, c3, rfl, ap3, h3⟩; have y3 := gtrans (by with_reducible assumption) h3; obtain ⟨_, _, _, _, _, _, _⟩ := (HX.out.keep y3).five)
      | (go_at_call 22; refine (KG.out _ (by with_reducible assumption)).mono ?_; rintro e w4 ⟨rfl, h4⟩; have y4 := gtrans (by with_reducible assumption) h4; obtain ⟨_, _, _, _, _, _, _⟩ := (HX.out.keep y4).five)
      | (go_at_call 14; refine (KA.out _ _ _ (by first | exact ap3.1 | exact (ap3.keep h4).1)).mono ?_; rintro e w5 ⟨rfl, h5⟩; have y5 := gtrans (by with_reducible assumption) h5; obtain ⟨_, _, _, _, _, ⟨_, _, _, _, _⟩, _⟩ := (HX.out.keep y5).five))
    all_goals
      have HB5 := box5_ga H0.out hal HX.out y5 (.int .i64 yk) (.int .i64 ya) (.int .i64 yb) (.int .i64 yp) (.bool yn)
      go_wp2_with fail
      go_meet
      exact HB5
  case rest =>
    obtain ⟨A, W, M⟩ := hcut
    obtain ⟨z0, z1, z2, z3, z4, zf, zl⟩ := W.five
    clear x0 x1 x2 x3 x4 xl KM KG KA y0 zf W hal
    rcases (show yk = 0 ∨ yk = 1 ∨ yk = 2 ∨ yk = 3 ∨ yk = 4 ∨ yk = 5 ∨ yk = 6 ∨ yk = 7 ∨ yk = 8 ∨ (¬ yk = 0 ∧ ¬ yk = 1 ∧ ¬ yk = 2 ∧ ¬ yk = 3 ∧ ¬ yk = 4 ∧ ¬ yk = 5 ∧ ¬ yk = 6 ∧ ¬ yk = 7 ∧ ¬ yk = 8) by omega) with hk | hk | hk | hk | hk | hk | hk | hk | hk | ⟨k0, k1, k2, k3, k4, k5, k6, k7, k8⟩
    · subst hk
      have KC := Lib.hid (join_ga K ya G g S wc (by omega) HOK.out A)
      have HD := Lib.hid (show doesY G ⟨0, ya, yb, yp, yn⟩ = joinG G ya from by simp [doesY])
      go_wp2_with fail
      refine KC.out.mono ?_
      rintro e w9 ⟨rfl, HH⟩
      go_wp2_with fail
      go_end0
      exact ⟨by first | rfl | trivial, by rw [HD.out]; exact GQ.does M HH⟩
    · subst hk
      have KC := Lib.hid (join_ga K ya G g S wc (by omega) HOK.out A)
      have HD := Lib.hid (show doesY G ⟨1, ya, yb, yp, yn⟩ = joinG G ya from by simp [doesY])
      go_wp2_with fail
      refine KC.out.mono ?_
      rintro e w9 ⟨rfl, HH⟩
      go_wp2_with fail
      go_end0
      exact ⟨by first | rfl | trivial, by rw [HD.out]; exact GQ.does M HH⟩
    · subst hk
      have KC := Lib.hid (sync_ga K ya G g S wc (by omega) HOK.out A)
      have HD := Lib.hid (show doesY G ⟨2, ya, yb, yp, yn⟩ = syncG G ya from by simp [doesY])
      go_wp2_with fail
      refine KC.out.mono ?_
      rintro e w9 ⟨al, cl, rfl, S9, h1, h2, _⟩
      have HH : ∃ S', GA w9 g (syncG G ya) S' ∧ Mvs wc w9 S S' := ⟨S9, h1, h2⟩
      go_wp2_with fail
      go_end0
      exact ⟨by first | rfl | trivial, by rw [HD.out]; exact GQ.does M HH⟩
    · subst hk
      have KC := Lib.hid (beat_ga K ya yb G g S wc (by omega) HOK.out A)
      have HD := Lib.hid (show doesY G ⟨3, ya, yb, yp, yn⟩ = beatG G ya yb from by simp [doesY])
      go_wp2_with fail
      refine KC.out.mono ?_
      rintro e w9 ⟨rfl, HH⟩
      go_wp2_with fail
      go_end0
      exact ⟨by first | rfl | trivial, by rw [HD.out]; exact GQ.does M HH⟩
    · subst hk
      have KC := Lib.hid (beat_ga K ya yb G g S wc (by omega) HOK.out A)
      have HD := Lib.hid (show doesY G ⟨4, ya, yb, yp, yn⟩ = beatG G ya yb from by simp [doesY])
      go_wp2_with fail
      refine KC.out.mono ?_
      rintro e w9 ⟨rfl, HH⟩
      go_wp2_with fail
      go_end0
      exact ⟨by first | rfl | trivial, by rw [HD.out]; exact GQ.does M HH⟩
    · subst hk
      have KC := Lib.hid (leave_ga K ya G g S wc (by omega) HOK.out A)
      have HD := Lib.hid (show doesY G ⟨5, ya, yb, yp, yn⟩ = leaveG G ya from by simp [doesY])
      go_wp2_with fail
      refine KC.out.mono ?_
      rintro e w9 ⟨rfl, HH⟩
      go_wp2_with fail
      go_end0
      exact ⟨by first | rfl | trivial, by rw [HD.out]; exact GQ.does M HH⟩
    · subst hk
      have KC := Lib.hid (tick_ga K G g S wc (by omega) HOK.out A)
      have HD := Lib.hid (show doesY G ⟨6, ya, yb, yp, yn⟩ = tickG G from by simp [doesY])
      go_wp2_with fail
      refine KC.out.mono ?_
      rintro e w9 ⟨rfl, HH⟩
      go_wp2_with fail
      go_end0
      exact ⟨by first | rfl | trivial, by rw [HD.out]; exact GQ.does M HH⟩
    · subst hk
      have KC := Lib.hid (tick_ga K G g S wc (by omega) HOK.out A)
      have HD := Lib.hid (show doesY G ⟨7, ya, yb, yp, yn⟩ = tickG G from by simp [doesY])
      go_wp2_with fail
      refine KC.out.mono ?_
      rintro e w9 ⟨rfl, HH⟩
      go_wp2_with fail
      go_end0
      exact ⟨by first | rfl | trivial, by rw [HD.out]; exact GQ.does M HH⟩
    · subst hk
      have KC := Lib.hid (tick_ga K G g S wc (by omega) HOK.out A)
      have HD := Lib.hid (show doesY G ⟨8, ya, yb, yp, yn⟩ = tickG G from by simp [doesY])
      go_wp2_with fail
      refine KC.out.mono ?_
      rintro e w9 ⟨rfl, HH⟩
      go_wp2_with fail
      go_end0
      exact ⟨by first | rfl | trivial, by rw [HD.out]; exact GQ.does M HH⟩
    · have HD := Lib.hid (show doesY G ⟨yk, ya, yb, yp, yn⟩ = G from by simp [doesY, k0, k1, k2, k3, k4, k5, k6, k7, k8])
      have b0 : (yk == 0) = false := by simpa using k0
      have b1 : (yk == 1) = false := by simpa using k1
      have b2 : (yk == 2) = false := by simpa using k2
      have b3 : (yk == 3) = false := by simpa using k3
      have b4 : (yk == 4) = false := by simpa using k4
      have b5 : (yk == 5) = false := by simpa using k5
      have b6 : (yk == 6) = false := by simpa using k6
      have b7 : (yk == 7) = false := by simpa using k7
      have b8 : (yk == 8) = false := by simpa using k8
      clear k0 k1 k2 k3 k4 k5 k6 k7 k8
      go_wp2_with fail
      go_end0
      exact ⟨by first | rfl | trivial, by rw [HD.out]; exact ⟨S, A, M⟩⟩
end Go.Proofs.Ytocmhmfaehnliaa
