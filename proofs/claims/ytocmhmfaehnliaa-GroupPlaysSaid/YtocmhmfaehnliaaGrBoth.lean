/- Both groups, the code's and the document's, side by side: headgatelaw10.same. -/
import Derived.Test.YtocmhmfaehnliaaRfAll
import Derived.Test.YtocmhmfaehnliaaGrAim
import Derived.Test.YtocmhmfaehnliaaGrSame
import Derived.Test.YtocmhmfaehnliaaMbSame
import Derived.Deep.RegionHeld3
import Derived.Deep.RegionWith
namespace Go.Proofs.Ytocmhmfaehnliaa
open Go.RowKit Vm As
set_option linter.unusedVariables false
set_option linter.unusedSimpArgs false

def RA (w : World) (g : Nat) (G : Gr) (S : Nat → Prop) : Prop := ∃ a c b d, RfW w g G a c b d ∧ S = SF g a b
theorem RA.live {w : World} {g : Nat} {G : Gr} {S : Nat → Prop} (h : RA w g G S) : ∀ k, S k → k < w.heap.size := by
  obtain ⟨a, c, b, d, h, rfl⟩ := h
  exact h.live
theorem RA.same {w w' : World} {g : Nat} {G : Gr} {S : Nat → Prop} (h : RA w g G S) (hs : ∀ k, k < w.heap.size → S k → w'.heap[k]? = w.heap[k]?) : RA w' g G S := by
  have hl := h.live
  obtain ⟨a, c, b, d, h, rfl⟩ := h
  exact ⟨a, c, b, d, ⟨(hs g h.lt (.inl rfl)).trans h.box, own_same h.rowL (fun x hx => hs _ (own_low h.rowL x hx).2 (.inr (.inl ⟨x, hx, rfl⟩))), own_same h.rowO (fun x hx => hs _ (own_low h.rowO x hx).2 (.inr (.inr ⟨x, hx, rfl⟩)))⟩, rfl⟩
theorem GA.same {w w' : World} {g : Nat} {G : Gr} {S : Nat → Prop} (h : GA w g G S) (hs : ∀ k, k < w.heap.size → S k → w'.heap[k]? = w.heap[k]?) : GA w' g G S := by
  obtain ⟨a, c, b, d, h, rfl⟩ := h
  exact ⟨a, c, b, d, ⟨(hs g h.lt (.inl rfl)).trans h.box, own_same h.rowL (fun x hx => hs _ (own_low h.rowL x hx).2 (.inr (.inl ⟨x, hx, rfl⟩))), own_same h.rowO (fun x hx => hs _ (own_low h.rowO x hx).2 (.inr (.inr ⟨x, hx, rfl⟩)))⟩, rfl⟩
/-- The code's group, the document's, apart from one another, and both from a box. -/
structure JJ (w : World) (g r : Nat) (G H : Gr) (S T : Nat → Prop) (xb : Nat) (t : TypeId) (cs : Array Value) : Prop where
  ga : GA w g G S
  ra : RA w r H T
  dj : ∀ k, S k → ¬ T k
  bx : Whole w xb t cs
  bs : ¬ S xb
  bt : ¬ T xb
def Un (S T : Nat → Prop) : Nat → Prop := fun k => S k ∨ T k
theorem JJ.keep {w w' : World} {g r : Nat} {G H : Gr} {S T : Nat → Prop} {xb : Nat} {t : TypeId} {cs : Array Value} (h : JJ w g r G H S T xb t cs) (hb : Below w.heap.size w w') : JJ w' g r G H S T xb t cs :=
  ⟨h.ga.keep hb, h.ra.same (fun k hk _ => hb.block k hk), h.dj, h.bx.keep hb, h.bs, h.bt⟩
theorem JJ.code {w w' : World} {g r : Nat} {G G' H : Gr} {S S' T : Nat → Prop} {xb : Nat} {t : TypeId} {cs : Array Value} (h : JJ w g r G H S T xb t cs) (hg : GA w' g G' S') (hm : Mvs w w' S S') : JJ w' g r G' H S' T xb t cs :=
  ⟨hg, h.ra.same (fun k hk hT => hm.2.1 k hk (fun hS => h.dj k hS hT)), fun k hk hT => by
    rcases hm.2.2 k hk with h1 | h1
    · exact h.dj k h1 hT
    · have := h.ra.live k hT; omega, (hm.2.1 _ h.bx.lt h.bs).trans h.bx, hm.out h.bx.lt h.bs, h.bt⟩
theorem JJ.ref {w w' : World} {g r : Nat} {G H H' : Gr} {S T T' : Nat → Prop} {xb : Nat} {t : TypeId} {cs : Array Value} (h : JJ w g r G H S T xb t cs) (hg : RA w' r H' T') (hm : Mvs w w' T T') : JJ w' g r G H' S T' xb t cs :=
  ⟨h.ga.same (fun k hk hS => hm.2.1 k hk (h.dj k hS)), hg, fun k hS hT => by
    rcases hm.2.2 k hT with h1 | h1
    · exact h.dj k hS h1
    · have := h.ga.live k hS; omega, (hm.2.1 _ h.bx.lt h.bt).trans h.bx, h.bs, hm.out h.bx.lt h.bt⟩
theorem Mvs.left {w w' : World} {S S' : Nat → Prop} (h : Mvs w w' S S') (T : Nat → Prop) : Mvs w w' (Un S T) (Un S' T) :=
  ⟨h.1, fun k hk hn => h.2.1 k hk (fun hS => hn (.inl hS)), fun k hk => by
    rcases hk with hk | hk
    · rcases h.2.2 k hk with h1 | h1
      · exact .inl (.inl h1)
      · exact .inr h1
    · exact .inl (.inr hk)⟩
theorem Mvs.right {w w' : World} {T T' : Nat → Prop} (h : Mvs w w' T T') (S : Nat → Prop) : Mvs w w' (Un S T) (Un S T') :=
  ⟨h.1, fun k hk hn => h.2.1 k hk (fun hS => hn (.inr hS)), fun k hk => by
    rcases hk with hk | hk
    · exact .inl (.inl hk)
    · rcases h.2.2 k hk with h1 | h1
      · exact .inl (.inr h1)
      · exact .inr h1⟩
/-- What a call of the document's does to both. -/
def RQ (r : Nat) (T : Nat → Prop) (G' : Gr) (E : Value) (w : World) (e : Ending) (w' : World) : Prop := e = .returned E ∧ ∃ T', RA w' r G' T' ∧ Mvs w w' T T'
theorem rjoin_ra (K : Nat) (x : Int) (G : Gr) (g : Nat) (S : Nat → Prop) (w : World) (hK : K ≤ 800) (hok : GOk G K) (h : RA w g G S) :
    Calls Try.prog 30 #[.pointer (some ⟨g, 0, none⟩), .int .i64 x] w (RQ g S (joinG G x) (joinV G x) w) := by
  obtain ⟨a, c, b, d, h, rfl⟩ := h
  exact (rjoin_walk K x G g a c b d w hK hok h).mono fun e w' ⟨he, a', c', b', d', h1, h2⟩ => ⟨he, _, ⟨a', c', b', d', h1, rfl⟩, h2⟩
theorem rbeat_ra (K : Nat) (x y : Int) (G : Gr) (g : Nat) (S : Nat → Prop) (w : World) (hK : K ≤ 800) (hok : GOk G K) (h : RA w g G S) :
    Calls Try.prog 32 #[.pointer (some ⟨g, 0, none⟩), .int .i64 x, .int .i64 y] w (RQ g S (beatG G x y) (.int .i64 (beatE G x y)) w) := by
  obtain ⟨a, c, b, d, h, rfl⟩ := h
  exact (rbeat_walk K x y G g a c b d w hK hok h).mono fun e w' ⟨he, a', c', b', d', h1, h2⟩ => ⟨he, _, ⟨a', c', b', d', h1, rfl⟩, h2⟩
theorem rleave_ra (K : Nat) (x : Int) (G : Gr) (g : Nat) (S : Nat → Prop) (w : World) (hK : K ≤ 800) (hok : GOk G K) (ha : Asc G.L) (h : RA w g G S) :
    Calls Try.prog 33 #[.pointer (some ⟨g, 0, none⟩), .int .i64 x] w (RQ g S (leaveG G x) (.int .i64 (leaveE G x)) w) := by
  obtain ⟨a, c, b, d, h, rfl⟩ := h
  exact (rleave_walk K x G g a c b d w hK hok ha h).mono fun e w' ⟨he, a', c', b', d', h1, h2⟩ => ⟨he, _, ⟨a', c', b', d', h1, rfl⟩, h2⟩
theorem rtick_ra (K : Nat) (G : Gr) (g : Nat) (S : Nat → Prop) (w : World) (hK : K ≤ 800) (hok : GOk G K) (h : RA w g G S) :
    Calls Try.prog 34 #[.pointer (some ⟨g, 0, none⟩)] w (RQ g S (tickG G) (.bool (tickB G)) w) := by
  obtain ⟨a, c, b, d, h, rfl⟩ := h
  exact (rtick_walk K G g a c b d w hK hok h).mono fun e w' ⟨he, a', c', b', d', h1, h2⟩ => ⟨he, _, ⟨a', c', b', d', h1, rfl⟩, h2⟩
def RSyncQ (g : Nat) (S : Nat → Prop) (G' : Gr) (N : Int) (L : List Int) (E : Int) (w : World) (e : Ending) (w' : World) : Prop := ∃ al cl, e = .returned (.tuple #[.int .i64 N, .slice al L.length cl, .int .i64 E]) ∧ ∃ S', RA w' g G' S' ∧ Mvs w w' S S' ∧ Sl w' w'.heap.size al (i64s L)
theorem rsync_ra (K : Nat) (x : Int) (G : Gr) (g : Nat) (S : Nat → Prop) (w : World) (hK : K ≤ 800) (hok : GOk G K) (h : RA w g G S) :
    Calls Try.prog 31 #[.pointer (some ⟨g, 0, none⟩), .int .i64 x] w (RSyncQ g S (syncG G x) (syncN G x) (syncL G x) (syncE G x) w) := by
  obtain ⟨a, c, b, d, h, rfl⟩ := h
  exact (rsync_walk K x G g a c b d w hK hok h).mono fun e w' ⟨a', c', b', d', al, cl, he, h1, h2, h3⟩ => ⟨al, cl, he, _, ⟨a', c', b', d', h1, rfl⟩, h2, h3⟩
theorem rmay_ra (K : Nat) (x y z : Int) (G : Gr) (g : Nat) (S : Nat → Prop) (w : World) (hK : K ≤ 800) (hok : GOk G K) (h : RA w g G S) :
    Calls Try.prog 35 #[.pointer (some ⟨g, 0, none⟩), .int .i64 x, .int .i64 y, .int .i64 z] w fun e w' => e = .returned (.int .i64 (mayE G x y z)) ∧ Below w.heap.size w w' := by
  obtain ⟨a, c, b, d, h, rfl⟩ := h
  exact rmay_walk K x y z G g a c b d w hK hok h
theorem held_ref {w0 w w' : World} {p q s t : Addr} {u v x y : Value} (h : w.cell? p = some u ∧ w.cell? q = some v ∧ w.cell? s = some x ∧ w.cell? t = some y ∧ Below w0.heap.size w0 w) (hb : Below w.heap.size w w') : w'.cell? p = some u ∧ w'.cell? q = some v ∧ w'.cell? s = some x ∧ w'.cell? t = some y ∧ Below w0.heap.size w0 w' :=
  ⟨(hb.cell (cell_lt h.1)).trans h.1, (hb.cell (cell_lt h.2.1)).trans h.2.1, (hb.cell (cell_lt h.2.2.1)).trans h.2.2.1, (hb.cell (cell_lt h.2.2.2.1)).trans h.2.2.2.1, gtrans h.2.2.2.2 hb⟩
theorem below_of5 {A B C D E : Prop} (h : A ∧ B ∧ C ∧ D ∧ E) : E := h.2.2.2.2
set_option maxRecDepth 100000 in
set_option maxHeartbeats 16000000 in
theorem same10_walk (K : Nat) (G : Gr) (g r : Nat) (S T : Nat → Prop) (w : World) (hK : K ≤ 800) (hok : GOk G K) (h1 : GA w g G S) (h2 : RA w r G T) :
    Calls Try.prog 15 #[.pointer (some ⟨g, 0, none⟩), .pointer (some ⟨r, 0, none⟩)] w fun e w' => e = .returned (.bool true) ∧ Below w.heap.size w w' := by
  have hlN := hok.len
  have ho1 := hok.o1
  obtain ⟨a, c, b, d, hR, rfl⟩ := h2
  have hrl := hR.lt
  have KG := Lib.hid (fun w' (y : Below w.heap.size w w') => gen_ga G g S w' (h1.keep y))
  have KN := Lib.hid (fun w' (y : Below w.heap.size w w') => next_ga G g S w' (h1.keep y))
  have KM := Lib.hid (fun w' (y : Below w.heap.size w w') => members_ga G g S w' (by omega) (h1.keep y))
  have KO := Lib.hid (fun w' (y : Below w.heap.size w w') => owners_ga G g S w' (by omega) (h1.keep y))
  unfold RowQ at KM KO
  have SL := Lib.hid (fun w' (y : Below w.heap.size w w') => (ownN_sl (hR.keep y).rowL))
  have SO := Lib.hid (fun w' (y : Below w.heap.size w w') => (ownN_sl (hR.keep y).rowO))
  have KS1 := Lib.hid (fun w' (y : Below w.heap.size w w') a1 c1 (hs : Sl w' w'.heap.size a1 (mbCells G.L)) => same_mb G.L G.L.length a1 a c1 c w'.heap.size w' rfl (by omega) hs (SL.out w' y) (Nat.le_refl _))
  have KS2 := Lib.hid (fun w' (y : Below w.heap.size w w') a1 c1 (hs : Sl w' w'.heap.size a1 (i64s G.O)) => same_dec G.O G.O G.O.length G.O.length a1 b c1 d w' true rfl rfl (by omega) (by omega) hs (SO.out w' y) ⟨fun _ => rfl, fun _ => rfl⟩)
  obtain ⟨m0, m1, m2, m3, m4, m5, m6, hfz⟩ := hR.seven
  have hS0 : w.drew.cell? ⟨r, 2, none⟩ = some (.int .i64 G.g) ∧ w.drew.cell? ⟨r, 3, none⟩ = some (.int .i64 G.n) ∧ w.drew.cell? ⟨r, 5, none⟩ = some (.slice a G.L.length c) ∧ w.drew.cell? ⟨r, 6, none⟩ = some (.slice b G.O.length d) ∧ Below w.heap.size w w.drew := ⟨m2, m3, m5, m6, (Below.refl _ _).drew⟩
  clear hok h1 hR SL SO hfz m0 m1 m2 m3 m4 m5 m6
  generalize G.L.length = n at *
  generalize G.O.length = P at *
  generalize G.g = gg at *
  generalize G.n = gn at *
  go_enter Try.func15, Try.ntmps15
  go_wp2_with fail
  go_region_held3 (fun w' => w'.cell? ⟨r, 2, none⟩ = some (.int .i64 gg) ∧ w'.cell? ⟨r, 3, none⟩ = some (.int .i64 gn) ∧ w'.cell? ⟨r, 5, none⟩ = some (.slice a n c) ∧ w'.cell? ⟨r, 6, none⟩ = some (.slice b P d) ∧ Below w.heap.size w w')
    (first | with_reducible assumption | assumption)
    (first
      | (go_at_call 22; refine (KG.out _ (below_of5 (by assumption))).mono ?_; rintro e w3 ⟨rfl, h3⟩; have y := held_ref (by assumption) h3)
      | (go_at_call 23; refine (KN.out _ (below_of5 (by assumption))).mono ?_; rintro e w3 ⟨rfl, h3⟩; have y := held_ref (by assumption) h3)
      | (go_at_call 17; refine (KM.out _ (below_of5 (by assumption))).mono ?_; rintro e w3 ⟨a3, c3, rfl, pm, h3⟩; have y := held_ref (by assumption) h3)
      | (go_at_call 18; refine (KO.out _ (below_of5 (by assumption))).mono ?_; rintro e w3 ⟨a4, c4, rfl, po, h3⟩; have y := held_ref (by assumption) h3)
      | (go_at_call 36; refine (KS1.out _ (below_of5 (by assumption)) _ _ pm.1).mono ?_; rintro e w3 ⟨rfl, h3⟩; have y := held_ref (by assumption) h3)
      | (go_at_call 25; refine (KS2.out _ (below_of5 (by assumption)) _ _ po.1).mono ?_; rintro e w3 ⟨rfl, h3⟩; have y := held_ref (by assumption) h3))
  all_goals
    obtain ⟨_, _, _, _, e6⟩ := y
    go_wp2_with fail
    go_ret
    exact ⟨rfl, e6⟩
end Go.Proofs.Ytocmhmfaehnliaa
