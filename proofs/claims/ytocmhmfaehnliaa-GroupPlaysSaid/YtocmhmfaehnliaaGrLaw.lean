/- Groups for the laws: a group with the blocks that it has; each call. -/
import Derived.Test.YtocmhmfaehnliaaGrJoin
import Derived.Test.YtocmhmfaehnliaaGrBeat
import Derived.Test.YtocmhmfaehnliaaGrTick
import Derived.Test.YtocmhmfaehnliaaAsCount
namespace Go.Proofs.Ytocmhmfaehnliaa
open Go.RowKit Vm As
set_option linter.unusedVariables false
set_option linter.unusedSimpArgs false

def GA (w : World) (g : Nat) (G : Gr) (S : Nat → Prop) : Prop := ∃ a c b d, GrW w g G a c b d ∧ S = SF g a b
def GQ (g : Nat) (S : Nat → Prop) (G' : Gr) (E : Value) (w : World) (e : Ending) (w' : World) : Prop := e = .returned E ∧ ∃ S', GA w' g G' S' ∧ Mvs w w' S S'
theorem GA.live {w : World} {g : Nat} {G : Gr} {S : Nat → Prop} (h : GA w g G S) : ∀ k, S k → k < w.heap.size := by
  obtain ⟨a, c, b, d, h, rfl⟩ := h
  exact h.live
theorem GA.keep {w w' : World} {g : Nat} {G : Gr} {S : Nat → Prop} (h : GA w g G S) (hb : Below w.heap.size w w') : GA w' g G S := by
  obtain ⟨a, c, b, d, h, rfl⟩ := h
  exact ⟨a, c, b, d, h.keep hb, rfl⟩
/-- A slice that lies apart from the group. -/
def Apt (w : World) (S : Nat → Prop) (a : Option Addr) (xs : List Value) : Prop := Sl w w.heap.size a xs ∧ ∀ x, a = some x → ¬ S x.block ∧ x.block < w.heap.size
theorem Apt.mvs {w w' : World} {S S' : Nat → Prop} {a : Option Addr} {xs : List Value} (h : Apt w S a xs) (hm : Mvs w w' S S') : Apt w' S' a xs :=
  ⟨h.1.mvs hm (fun x hx => (h.2 x hx).1), fun x hx => ⟨hm.out (h.2 x hx).2 (h.2 x hx).1, Nat.lt_of_lt_of_le (h.2 x hx).2 hm.size⟩⟩
theorem Apt.keep {w w' : World} {S : Nat → Prop} {a : Option Addr} {xs : List Value} (h : Apt w S a xs) (hb : Below w.heap.size w w') : Apt w' S a xs := h.mvs (Mvs.below S hb)
theorem Apt.own {w w' : World} {S : Nat → Prop} {a : Option Addr} {e : TypeId} {n c size : Nat} {xs : List Value} (hl : ∀ k, S k → k < w.heap.size) (ho : w'.ownsRow w.heap.size e size (.slice a n c) n xs) : Apt w' S a xs :=
  ⟨ownN_sl ho, fun x hx => ⟨fun hS => by have := hl _ hS; have := (own_low ho x hx).1; omega, (own_low ho x hx).2⟩⟩
theorem join_ga (K : Nat) (x : Int) (G : Gr) (g : Nat) (S : Nat → Prop) (w : World) (hK : K ≤ 800) (hok : GOk G K) (h : GA w g G S) :
    Calls Try.prog 29 #[.pointer (some ⟨g, 0, none⟩), .int .i64 x] w (GQ g S (joinG G x) (joinV G x) w) := by
  obtain ⟨a, c, b, d, h, rfl⟩ := h
  exact (gjoin_walk K x G g a c b d w hK hok h).mono fun e w' ⟨he, a', c', b', d', h1, h2⟩ => ⟨he, _, ⟨a', c', b', d', h1, rfl⟩, h2⟩
theorem beat_ga (K : Nat) (x y : Int) (G : Gr) (g : Nat) (S : Nat → Prop) (w : World) (hK : K ≤ 800) (hok : GOk G K) (h : GA w g G S) :
    Calls Try.prog 26 #[.pointer (some ⟨g, 0, none⟩), .int .i64 x, .int .i64 y] w (GQ g S (beatG G x y) (.int .i64 (beatE G x y)) w) := by
  obtain ⟨a, c, b, d, h, rfl⟩ := h
  exact (gbeat_walk K x y G g a c b d w hK hok h).mono fun e w' ⟨he, a', c', b', d', h1, h2⟩ => ⟨he, _, ⟨a', c', b', d', h1, rfl⟩, h2⟩
theorem leave_ga (K : Nat) (x : Int) (G : Gr) (g : Nat) (S : Nat → Prop) (w : World) (hK : K ≤ 800) (hok : GOk G K) (h : GA w g G S) :
    Calls Try.prog 27 #[.pointer (some ⟨g, 0, none⟩), .int .i64 x] w (GQ g S (leaveG G x) (.int .i64 (leaveE G x)) w) := by
  obtain ⟨a, c, b, d, h, rfl⟩ := h
  exact (gleave_walk K x G g a c b d w hK hok h).mono fun e w' ⟨he, a', c', b', d', h1, h2⟩ => ⟨he, _, ⟨a', c', b', d', h1, rfl⟩, h2⟩
theorem tick_ga (K : Nat) (G : Gr) (g : Nat) (S : Nat → Prop) (w : World) (hK : K ≤ 800) (hok : GOk G K) (h : GA w g G S) :
    Calls Try.prog 28 #[.pointer (some ⟨g, 0, none⟩)] w (GQ g S (tickG G) (.bool (tickB G)) w) := by
  obtain ⟨a, c, b, d, h, rfl⟩ := h
  exact (gtick_walk K G g a c b d w hK hok h).mono fun e w' ⟨he, a', c', b', d', h1, h2⟩ => ⟨he, _, ⟨a', c', b', d', h1, rfl⟩, h2⟩
def SyncQ (g : Nat) (S : Nat → Prop) (G' : Gr) (N : Int) (L : List Int) (E : Int) (w : World) (e : Ending) (w' : World) : Prop := ∃ al cl, e = .returned (.tuple #[.int .i64 N, .slice al L.length cl, .int .i64 E]) ∧ ∃ S', GA w' g G' S' ∧ Mvs w w' S S' ∧ Sl w' w'.heap.size al (i64s L)
theorem sync_ga (K : Nat) (x : Int) (G : Gr) (g : Nat) (S : Nat → Prop) (w : World) (hK : K ≤ 800) (hok : GOk G K) (h : GA w g G S) :
    Calls Try.prog 20 #[.pointer (some ⟨g, 0, none⟩), .int .i64 x] w (SyncQ g S (syncG G x) (syncN G x) (syncL G x) (syncE G x) w) := by
  obtain ⟨a, c, b, d, h, rfl⟩ := h
  exact (gsync_walk K x G g a c b d w hK hok h).mono fun e w' ⟨a', c', b', d', al, cl, he, h1, h2, h3, _⟩ => ⟨al, cl, he, _, ⟨a', c', b', d', h1, rfl⟩, h2, h3⟩
theorem may_ga (K : Nat) (x y z : Int) (G : Gr) (g : Nat) (S : Nat → Prop) (w : World) (hK : K ≤ 800) (hok : GOk G K) (h : GA w g G S) :
    Calls Try.prog 21 #[.pointer (some ⟨g, 0, none⟩), .int .i64 x, .int .i64 y, .int .i64 z] w fun e w' => e = .returned (.int .i64 (mayE G x y z)) ∧ Below w.heap.size w w' := by
  obtain ⟨a, c, b, d, h, rfl⟩ := h
  exact gmay_walk K x y z G g a c b d w hK hok h
theorem gen_ga (G : Gr) (g : Nat) (S : Nat → Prop) (w : World) (h : GA w g G S) : Calls Try.prog 22 #[.pointer (some ⟨g, 0, none⟩)] w fun e w' => e = .returned (.int .i64 G.g) ∧ Below w.heap.size w w' := by
  obtain ⟨a, c, b, d, h, rfl⟩ := h
  exact ggen_walk G g a c b d w h
theorem next_ga (G : Gr) (g : Nat) (S : Nat → Prop) (w : World) (h : GA w g G S) : Calls Try.prog 23 #[.pointer (some ⟨g, 0, none⟩)] w fun e w' => e = .returned (.int .i64 G.n) ∧ Below w.heap.size w w' := by
  obtain ⟨a, c, b, d, h, rfl⟩ := h
  exact gnext_walk G g a c b d w h
/-- A row told. -/
def RowQ (S : Nat → Prop) (n : Nat) (xs : List Value) (w : World) (e : Ending) (w' : World) : Prop := ∃ a' c', e = .returned (.slice a' n c') ∧ Apt w' S a' xs ∧ Below w.heap.size w w'
theorem members_ga (G : Gr) (g : Nat) (S : Nat → Prop) (w : World) (hN : G.L.length ≤ 1000) (h : GA w g G S) : Calls Try.prog 17 #[.pointer (some ⟨g, 0, none⟩)] w (RowQ S G.L.length (mbCells G.L) w) := by
  have hl := h.live
  obtain ⟨a, c, b, d, h, rfl⟩ := h
  exact (gmembers_walk G g a c b d w hN h).mono fun e w' ⟨a', c', he, ho, hb⟩ => ⟨a', c', he, Apt.own hl ho, hb⟩
theorem owners_ga (G : Gr) (g : Nat) (S : Nat → Prop) (w : World) (hN : G.O.length ≤ 1000) (h : GA w g G S) : Calls Try.prog 18 #[.pointer (some ⟨g, 0, none⟩)] w (RowQ S G.O.length (i64s G.O) w) := by
  have hl := h.live
  obtain ⟨a, c, b, d, h, rfl⟩ := h
  exact (gowners_walk G g a c b d w hN h).mono fun e w' ⟨a', c', he, ho, hb⟩ => ⟨a', c', he, Apt.own hl ho, hb⟩
def NewQ (st : Bool) (parts : Nat) (gen nxt : Int) (w : World) (e : Ending) (w' : World) : Prop := ∃ g S, e = .returned (.tuple #[.pointer (some ⟨g, 0, none⟩), .int .i64 0]) ∧ GA w' g (newG parts st gen nxt) S ∧ Hid (∀ k, S k → w.heap.size ≤ k) ∧ Below w.heap.size w w'
theorem new_ga (parts : Nat) (st : Bool) (gen nxt : Int) (w : World) (h : newOk parts gen nxt = true) :
    Calls Try.prog 9 #[.int .i64 parts, .bool st, .int .i64 gen, .int .i64 nxt] w (NewQ st parts gen nxt w) :=
  (gnew_walk parts st gen nxt w h).mono fun e w' ⟨g, b, d, he, h1, h2, h3⟩ => ⟨g, _, he, ⟨none, 0, b, d, h1, rfl⟩, Lib.hid h2, h3⟩
def wG1 : Gr := ⟨false, 1, 2, 0, [⟨1, 1, 12⟩], [1, 1]⟩
def wG2 : Gr := ⟨false, 2, 3, 0, [⟨1, 1, 12⟩, ⟨2, 2, 12⟩], [1, 2]⟩
def wG3 : Gr := ⟨false, 3, 4, 0, [⟨2, 2, 12⟩, ⟨3, 1, 12⟩], [2, 3]⟩
theorem rangeS {p : Int} {l m : List Int} (h : MemIs l m) (hp : okP p = true) : rangeF p l = rangeL p.toNat m := by
  unfold rangeF
  rw [if_pos hp, memIs_unique (memL_is l) h]
theorem r1 : rangeF 2 [1] = [1, 1] := by rw [rangeS (m := [1]) ⟨by decide, fun x => by simp; omega⟩ (by decide)]; decide
theorem r2 : rangeF 2 [1, 2] = [1, 2] := by rw [rangeS (m := [1, 2]) ⟨by decide, fun x => by simp; omega⟩ (by decide)]; decide
theorem r3 : rangeF 2 [2, 3] = [2, 3] := by rw [rangeS (m := [2, 3]) ⟨by decide, fun x => by simp; omega⟩ (by decide)]; decide
theorem wj1 : joinG (newG 2 false 0 1) 1 = wG1 := by
  unfold joinG; rw [if_pos (by decide)]
  show ({ st := false, g := 1, n := 2, t := 0, L := [⟨1, 1, 12⟩], O := rangeF 2 [1] } : Gr) = wG1
  rw [r1]; rfl
theorem wj2 : joinG wG1 2 = wG2 := by
  unfold joinG; rw [if_pos (by decide)]
  show ({ st := false, g := 2, n := 3, t := 0, L := [⟨1, 1, 12⟩, ⟨2, 2, 12⟩], O := rangeF 2 [1, 2] } : Gr) = wG2
  rw [r2]; rfl
theorem wj3 : joinG wG2 1 = wG3 := by
  unfold joinG; rw [if_pos (by decide)]
  show ({ st := false, g := 3, n := 4, t := 0, L := [⟨2, 2, 12⟩, ⟨3, 1, 12⟩], O := rangeF 2 [2, 3] } : Gr) = wG3
  rw [r3]; rfl
set_option maxRecDepth 100000 in
set_option maxHeartbeats 4000000 in
theorem awake10_walk (w : World) : Calls Try.prog 11 #[] w fun e w' => e = .returned (.bool true) ∧ Below w.heap.size w w' := by
  have K0 : GOk (newG 2 false 0 1) 0 := newG_ok (by decide)
  have K1 : GOk wG1 1 := by have := joinG_ok (x := 1) K0; rwa [wj1] at this
  have K2 : GOk wG2 2 := by have := joinG_ok (x := 2) K1; rwa [wj2] at this
  have K3 : GOk wG3 3 := by have := joinG_ok (x := 1) K2; rwa [wj3] at this
  have HN := Lib.hid (new_ga 2 false 0 1 w (by decide))
  have J1 := Lib.hid (fun g S w h => join_ga 0 1 (newG 2 false 0 1) g S w (by omega) K0 h)
  have J2 := Lib.hid (fun g S w h => join_ga 1 2 wG1 g S w (by omega) K1 h)
  have J3 := Lib.hid (fun g S w h => join_ga 2 1 wG2 g S w (by omega) K2 h)
  have B1 := Lib.hid (fun g S w h => beat_ga 3 2 2 wG3 g S w (by omega) K3 h)
  have B2 := Lib.hid (fun g S w h => beat_ga 3 1 3 wG3 g S w (by omega) K3 h)
  have X1 := Lib.hid (fun g S w h => owners_ga wG2 g S w (by decide) h)
  have X2 := Lib.hid (fun g S w h => owners_ga wG3 g S w (by decide) h)
  rw [wj1] at J1
  rw [wj2] at J2
  rw [wj3] at J3
  rw [show joinV (newG 2 false 0 1) 1 = .tuple #[.int .i64 1, .int .i64 1, .int .i64 0] from by rfl] at J1
  rw [show joinV wG1 2 = .tuple #[.int .i64 2, .int .i64 2, .int .i64 0] from by rfl] at J2
  rw [show joinV wG2 1 = .tuple #[.int .i64 3, .int .i64 3, .int .i64 0] from by rfl] at J3
  rw [show beatG wG3 2 2 = wG3 from by rfl, show beatE wG3 2 2 = 12 from by rfl] at B1
  rw [show beatG wG3 1 3 = wG3 from by rfl, show beatE wG3 1 3 = 11 from by rfl] at B2
  have S1 := Lib.hid (fun a b c d w ha hb => same_all [1, 2] a b c d w (by decide) ha hb)
  have S2 := Lib.hid (fun a b c d w ha hb => same_all [2, 3] a b c d w (by decide) ha hb)
  unfold NewQ at HN
  unfold GQ at J1 J2 J3 B1 B2
  unfold RowQ at X1 X2
  rw [show wG2.O = [1, 2] from rfl] at X1
  rw [show wG3.O = [2, 3] from rfl] at X2
  simp only [List.length_cons, List.length_nil, Nat.zero_add, Nat.reduceAdd] at X1 X2
  generalize newG 2 false 0 1 = G0 at *
  generalize wG1 = G1 at *
  generalize wG2 = G2 at *
  generalize wG3 = G3 at *
  clear K0 K1 K2 K3
  go_enter Try.func11, Try.ntmps11
  go_wp2_with fail
  refine HN.out.mono ?_
  rintro e w0 ⟨g, Z0, rfl, A0, hZ, b0⟩
  have JJ := Lib.hid (J1.out g Z0 w0 A0)
  clear HN J1
  go_wp2_with fail
  refine JJ.out.mono ?_
  rintro e w1 ⟨rfl, Z1, A1, M1⟩
  have JJ1 := Lib.hid (J2.out g Z1 w1 A1)
  clear JJ J2 A0
  go_wp2_with fail
  refine JJ1.out.mono ?_
  rintro e w2 ⟨rfl, Z2, A2, M2⟩
  have m2 := M1.trans M2
  have XX := Lib.hid (X1.out g Z2 w2 A2)
  clear JJ1 X1 A1 M1 M2
  go_wp2_with fail
  refine XX.out.mono ?_
  rintro e w3 ⟨a3, c3, rfl, q3, b3⟩
  have A3 := A2.keep b3
  have m3 := m2.trans (Mvs.below _ b3)
  have JJ2 := Lib.hid (J3.out g Z2 w3 A3)
  clear XX J3 A2 m2 b3
  go_wp2_with fail
  refine JJ2.out.mono ?_
  rintro e w4 ⟨rfl, Z4, A4, M4⟩
  have m4 := m3.trans M4
  have q4 := q3.mvs M4
  have XX2 := Lib.hid (X2.out g Z4 w4 A4)
  clear JJ2 X2 A3 M4 m3 q3
  go_wp2_with fail
  refine XX2.out.mono ?_
  rintro e w5 ⟨a5, c5, rfl, r5, b5⟩
  have A5 := A4.keep b5
  have q5 := q4.keep b5
  have m5 := m4.trans (Mvs.below _ b5)
  have hal5 := balloc w5 (.cells #[.int .i64 1, .int .i64 2] 3)
  have s0 := Lib.hid (sl_fresh w5 (i64s [1, 2]) 3)
  have T1 := Lib.hid (q5.keep hal5)
  have T2 := Lib.hid (r5.keep hal5)
  have A6 := Lib.hid (A5.keep hal5)
  have m6 := Lib.hid (m5.trans (Mvs.below _ hal5))
  clear XX2 A4 q4 m4 b5 q5 r5 A5 m5 hal5
  go_wp2_with fail
  refine (S1.out _ _ _ _ _ T1.out.1 s0.out).mono ?_
  rintro e w6 ⟨rfl, b6⟩
  have hal6 := balloc w6 (.cells #[.int .i64 2, .int .i64 3] 3)
  have s1 := Lib.hid (sl_fresh w6 (i64s [2, 3]) 3)
  have T3 := Lib.hid ((T2.out.keep b6).keep hal6)
  have A7 := Lib.hid ((A6.out.keep b6).keep hal6)
  have m7 := Lib.hid ((m6.out.trans (Mvs.below _ b6)).trans (Mvs.below _ hal6))
  clear T1 T2 A6 m6 s0 S1 b6 hal6
  go_wp2_with fail
  refine (S2.out _ _ _ _ _ T3.out.1 s1.out).mono ?_
  rintro e w7 ⟨rfl, b7⟩
  have A8 := A7.out.keep b7
  have m8 := m7.out.trans (Mvs.below _ b7)
  have BB1 := Lib.hid (B1.out g Z4 w7 A8)
  clear T3 A7 m7 s1 S2 b7 B1 A8
  go_wp2_with fail
  refine BB1.out.mono ?_
  rintro e w8 ⟨rfl, Z8, A9, M8⟩
  have m9 := m8.trans M8
  have BB2 := Lib.hid (B2.out g Z8 w8 A9)
  clear BB1 B2 A9 m8 M8
  go_wp2_with fail
  refine BB2.out.mono ?_
  rintro e w9 ⟨rfl, Z9, A10, M9⟩
  have m10 := m9.trans M9
  clear BB2 A10 m9 M9
  go_wp2_with fail
  go_ret
  exact ⟨rfl, b0.trans (m10.low hZ.out b0.size)⟩
end Go.Proofs.Ytocmhmfaehnliaa
