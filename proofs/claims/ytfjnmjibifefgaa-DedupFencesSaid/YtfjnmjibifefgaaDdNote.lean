/- The walk of dedup.Note. -/
import Derived.Test.YtfjnmjibifefgaaDdIns
import Derived.Test.YtfjnmjibifefgaaDdLook
namespace Go.Proofs.Ytfjnmjibifefgaa
open Go.RowKit Vm Bm
set_option linter.unusedVariables false
set_option linter.unusedSimpArgs false

/-- The row that a batch at an offset leaves. -/
def RowIs (b : Bat) (o : Int) (x : Pr) (m : Bool) : Prop := (2 < b.kind ∧ m = true ∧ x = ⟨b.pid, b.epoch, 0, 0, o⟩) ∨ (¬ 2 < b.kind ∧ m = false ∧ x = ⟨b.pid, b.epoch, b.seq, b.l.length, o⟩)
theorem rowIs_ex (b : Bat) (o : Int) : ∃ x m, RowIs b o x m := by
  by_cases h : 2 < b.kind
  · exact ⟨_, _, .inl ⟨h, rfl, rfl⟩⟩
  · exact ⟨_, _, .inr ⟨h, rfl, rfl⟩⟩
/-- The rows behind a batch. -/
def NtIs (b : Bat) (x : Pr) (m : Bool) (l D : List Pr) : Prop :=
  (b.pid = 0 ∧ D = l) ∨ (b.pid ≠ 0 ∧ (∀ p, p < l.length → prKey (l.getD p pr0) ≠ b.pid) ∧ InsIs l x D) ∨
  (b.pid ≠ 0 ∧ ∃ k, k < l.length ∧ (∀ p, p < k → prKey (l.getD p pr0) ≠ b.pid) ∧ prKey (l.getD k pr0) = b.pid ∧
    ((m = true ∧ ¬ (l.getD k pr0).e < b.epoch ∧ D = l) ∨ ((m = false ∨ (l.getD k pr0).e < b.epoch) ∧ D = l.set k x)))
theorem first_ex (l : List Pr) (pid : Int) : (∀ p, p < l.length → prKey (l.getD p pr0) ≠ pid) ∨ ∃ k, k < l.length ∧ (∀ p, p < k → prKey (l.getD p pr0) ≠ pid) ∧ prKey (l.getD k pr0) = pid := by
  by_cases h : ∃ k, k < l.length ∧ (∀ p, p < k → prKey (l.getD p pr0) ≠ pid) ∧ prKey (l.getD k pr0) = pid
  · exact .inr h
  · refine .inl fun p => ?_
    induction p using Nat.strongRecOn with
    | _ p ih =>
      intro hp hc
      exact h ⟨p, hp, fun q hq => ih q hq (by omega), hc⟩
theorem ntIs_ex (b : Bat) (x : Pr) (m : Bool) (l : List Pr) : ∃ D, NtIs b x m l D := by
  by_cases h0 : b.pid = 0
  · exact ⟨l, .inl ⟨h0, rfl⟩⟩
  rcases first_ex l b.pid with h | ⟨k, h1, h2, h3⟩
  · obtain ⟨D, hD⟩ := insIs_ex l x
    exact ⟨D, .inr (.inl ⟨h0, h, hD⟩)⟩
  · by_cases h4 : m = true ∧ ¬ (l.getD k pr0).e < b.epoch
    · exact ⟨l, .inr (.inr ⟨h0, k, h1, h2, h3, .inl ⟨h4.1, h4.2, rfl⟩⟩)⟩
    · exact ⟨_, .inr (.inr ⟨h0, k, h1, h2, h3, .inr ⟨by cases m; exact .inl rfl; exact .inr (Classical.byContradiction fun hc => h4 ⟨rfl, hc⟩), rfl⟩⟩)⟩
theorem first_eq {l : List Pr} {pid : Int} {j k : Nat} (h1 : ∀ p, p < j → prKey (l.getD p pr0) ≠ pid) (h2 : prKey (l.getD j pr0) = pid) (h3 : ∀ p, p < k → prKey (l.getD p pr0) ≠ pid) (h4 : prKey (l.getD k pr0) = pid) : j = k := by
  rcases Nat.lt_trichotomy j k with h5 | h5 | h5
  · exact absurd h2 (h3 j h5)
  · exact h5
  · exact absurd h4 (h1 k h5)
theorem ntIs_none {b : Bat} {x : Pr} {m : Bool} {l D : List Pr} (h : NtIs b x m l D) (h0 : b.pid ≠ 0) (h1 : ∀ p, p < l.length → prKey (l.getD p pr0) ≠ b.pid) : InsIs l x D := by
  rcases h with ⟨h, _⟩ | ⟨_, _, h⟩ | ⟨_, k, h2, _, h3, _⟩
  · exact absurd h h0
  · exact h
  · exact absurd h3 (h1 k h2)
theorem ntIs_at {b : Bat} {x : Pr} {m : Bool} {l D : List Pr} (h : NtIs b x m l D) (h0 : b.pid ≠ 0) {k : Nat} (hk : k < l.length) (h1 : ∀ p, p < k → prKey (l.getD p pr0) ≠ b.pid) (h2 : prKey (l.getD k pr0) = b.pid) :
    (m = true ∧ ¬ (l.getD k pr0).e < b.epoch ∧ D = l) ∨ ((m = false ∨ (l.getD k pr0).e < b.epoch) ∧ D = l.set k x) := by
  rcases h with ⟨h, _⟩ | ⟨_, h, _⟩ | ⟨_, j, h3, h4, h5, h6⟩
  · exact absurd h h0
  · exact absurd h2 (h k hk)
  · rw [← first_eq h4 h5 h1 h2]; exact h6
theorem own_pr {w : World} {base N c : Nat} {a : Option Addr} {l : List Pr} {k : Nat} (h : w.ownsRow base 44 5 (.slice a N c) N (prCells l)) (hk : k < l.length) :
    ∃ g, a = some ⟨g, 0, none⟩ ∧ base ≤ g ∧ g < w.heap.size ∧ w.cell? ⟨g, k * 5, none⟩ = some (.int .i64 (l.getD k pr0).p) ∧ w.cell? ⟨g, k * 5 + 1, none⟩ = some (.int .i64 (l.getD k pr0).e) ∧ w.cell? ⟨g, k * 5 + 2, none⟩ = some (.int .i64 (l.getD k pr0).s) ∧ w.cell? ⟨g, k * 5 + 3, none⟩ = some (.int .i64 (l.getD k pr0).n) ∧ w.cell? ⟨g, k * 5 + 4, none⟩ = some (.int .i64 (l.getD k pr0).b) := by
  have hn : 0 < N := by
    have h1 := h.1
    rw [prCells_length] at h1
    omega
  obtain ⟨g, rfl, hg⟩ := ownN_at h hn
  obtain ⟨b1, o1, e, hb, hc⟩ := (ownN_sl h).pr (by omega)
  injection e with e
  injection e with e1 e2 _
  subst e1 e2
  have := hc k hk
  simp only [Nat.zero_add] at this
  exact ⟨g, rfl, hg.1, hb, this.1, this.2.1, this.2.2.1, this.2.2.2.1, this.2.2.2.2⟩
theorem ownN_drewN {w : World} {base n size : Nat} {e : TypeId} {v : Value} {xs : List Value} (h : w.ownsRow base e size v n xs) (k : Nat) : (w.drewN k).ownsRow base e size v n xs := h
theorem below_store5 {w w4 : World} {C : Nat} (h : Below C w w4) (g i : Nat) (hg : C ≤ g) (v0 v1 v2 v3 v4 : Value) :
    Below C w (((((w4.setCell ⟨g, i, none⟩ v0).setCell ⟨g, i + 1, none⟩ v1).setCell ⟨g, i + 2, none⟩ v2).setCell ⟨g, i + 3, none⟩ v3).setCell ⟨g, i + 4, none⟩ v4) :=
  ((((h.setCell (p := ⟨g, i, none⟩) hg v0).setCell (p := ⟨g, i + 1, none⟩) hg v1).setCell (p := ⟨g, i + 2, none⟩) hg v2).setCell (p := ⟨g, i + 3, none⟩) hg v3).setCell (p := ⟨g, i + 4, none⟩) hg v4
theorem pr_store5 {w : World} {base N g c k : Nat} {l : List Pr} (h : w.ownsRow base 44 5 (.slice (some ⟨g, 0, none⟩) N c) N (prCells l)) (hk : k < l.length) (x : Pr) :
    (w.frozen? ⟨g, k * 5, none⟩ = false ∧ w.frozen? ⟨g, k * 5 + 1, none⟩ = false ∧ w.frozen? ⟨g, k * 5 + 2, none⟩ = false ∧ w.frozen? ⟨g, k * 5 + 3, none⟩ = false ∧ w.frozen? ⟨g, k * 5 + 4, none⟩ = false) ∧
    (((((w.setCell ⟨g, k * 5, none⟩ (.int .i64 x.p)).setCell ⟨g, k * 5 + 1, none⟩ (.int .i64 x.e)).setCell ⟨g, k * 5 + 2, none⟩ (.int .i64 x.s)).setCell ⟨g, k * 5 + 3, none⟩ (.int .i64 x.n)).setCell ⟨g, k * 5 + 4, none⟩ (.int .i64 x.b)).ownsRow base 44 5 (.slice (some ⟨g, 0, none⟩) N c) N (prCells (l.set k x)) := by
  have hn : 0 < N := by
    have h1 := h.1
    rw [prCells_length] at h1
    omega
  obtain ⟨g', e, _, _, hf, _⟩ := ownN_at h hn
  injection e with e
  injection e with e1 _ _
  subst e1
  refine ⟨⟨hf _, hf _, hf _, hf _, hf _⟩, ?_⟩
  have hL : (prCells l).length = l.length * 5 := prCells_length l
  have h0 := ownN_store (u := .int .i64 x.p) h (j := k * 5) (by omega)
  have h1 := ownN_store (u := .int .i64 x.e) h0 (j := k * 5 + 1) (by rw [List.length_set]; omega)
  have h2 := ownN_store (u := .int .i64 x.s) h1 (j := k * 5 + 2) (by rw [List.length_set, List.length_set]; omega)
  have h3 := ownN_store (u := .int .i64 x.n) h2 (j := k * 5 + 3) (by rw [List.length_set, List.length_set, List.length_set]; omega)
  have h4 := ownN_store (u := .int .i64 x.b) h3 (j := k * 5 + 4) (by rw [List.length_set, List.length_set, List.length_set, List.length_set]; omega)
  have e0 := prCells_set0 l k x.p hk
  rw [Nat.add_zero] at e0
  rw [e0, prCells_set1 _ k x.e (by simpa using hk), prCells_set2 _ k x.s (by simpa using hk), prCells_set3 _ k x.n (by simpa using hk), prCells_set4 _ k x.b (by simpa using hk)] at h4
  have e5 : ∀ y z : List Pr, y = z → prCells y = prCells z := fun y z h => by rw [h]
  rw [e5 _ (l.set k x) (by simp [List.getD, hk])] at h4
  exact h4
set_option maxRecDepth 100000 in
set_option maxHeartbeats 4000000 in
theorem dnote_walk (l : List Pr) (N : Nat) (a : Option Addr) (c B : Nat) (b : Bat) (ab : Option Addr) (cb : Nat) (o : Int) (w : World) (x : Pr) (m : Bool) (D : List Pr) (hN : l.length = N) (hNm : N ≤ 1000) (hx : RowIs b o x m) (hD : NtIs b x m l D) (h : Sl w B a (prCells l)) (hB : B ≤ w.heap.size) :
    Calls Try.prog 19 #[.slice a N c, bv b ab cb, .int .i64 o] w (OwnPost w w.heap.size D) := by
  have hal := balloc w (.cells (bvc b ab cb) 25)
  have hW := Whole.new w 25 (bvc b ab cb)
  have h' := h.below hal hB
  have HC := Lib.hid (clone_pr l N a c B (w.alloc (.cells (bvc b ab cb) 25)) hN (by omega) h' (Nat.le_trans hB hal.size))
  have HNe := Lib.hid hN
  have HD := Lib.hid hD
  have HX := Lib.hid hx
  clear hN hD hx h h'
  by_cases hp0 : b.pid = 0
  · have hpb : (b.pid == 0) = true := by rw [hp0]; rfl
    have HP := Lib.hid hp0
    clear hp0
    unfold bv
    go_enter Try.func19, Try.ntmps19
    go_wp2_with fail
    refine HC.out.mono ?_
    rintro e w1 ⟨a1, c1, rfl, own1, g1⟩
    have W1 := hW.keep g1
    obtain ⟨x0, x1, x2, x3, x4, hg1⟩ := W1.five
    go_wp2_with fail
    go_ret
    refine own_end (ownN_base own1 hal.size) (by rcases HD.out with ⟨_, h⟩ | ⟨h, _⟩ | ⟨h, _⟩; rw [h]; exact absurd HP.out h; exact absurd HP.out h) (by rcases HD.out with ⟨_, h⟩ | ⟨h, _⟩ | ⟨h, _⟩; rw [h, HNe.out]; exact absurd HP.out h; exact absurd HP.out h) (gtrans hal g1)
  · have hpb : (b.pid == 0) = false := by simp [hp0]
    have HP := Lib.hid hp0
    clear hp0
    -- generated by gen/dnote07.py
    rcases HX.out with ⟨hk, rfl, hxe⟩ | ⟨hk, rfl, hxe⟩
    · obtain rfl := hxe
      have hd2 : decide (2 < b.kind) = true := decide_eq_true hk
      clear HX
      unfold bv
      go_enter Try.func19, Try.ntmps19
      go_wp2_with fail
      refine HC.out.mono ?_
      rintro e w1 ⟨a1, c1, rfl, own1, g1⟩
      have W1 := hW.keep g1
      obtain ⟨x0, x1, x2, x3, x4, hg1⟩ := W1.five
      have halx := balloc w1 (.cells #[.int .i64 b.pid, .int .i64 b.epoch, .int .i64 0, .int .i64 0, .int .i64 o] 44)
      have X2 := Whole.new w1 44 #[.int .i64 b.pid, .int .i64 b.epoch, .int .i64 0, .int .i64 0, .int .i64 o]
      have W2 := W1.keep halx
      have own2 := own_keep own1 halx
      have b1 := gtrans hal g1
      have b2 := gtrans b1 halx
      have hz1 : w.heap.size + 1 ≤ w1.heap.size := by have := g1.size; simp at this; omega
      have hz0 : (w.alloc (.cells (bvc b ab cb) 25)).heap.size = w.heap.size + 1 := by simp
      rw [hz0] at own2
      go_upto_region 8 with fail
      obtain ⟨w2, hw2⟩ : ∃ w2, w2 = w1.alloc (.cells #[.int .i64 b.pid, .int .i64 b.epoch, .int .i64 0, .int .i64 0, .int .i64 o] 44) := ⟨_, rfl⟩
      rw [← hw2] at halx X2 W2 own2 b2 ⊢
      have hz2 : w1.heap.size < w2.heap.size := X2.lt
      clear hw2 x0 x1 x2 x3 x4 own1 g1 b1 halx W1
      obtain ⟨x0, x1, x2, x3, x4, hg2⟩ := W2.five
      have HO2 := Lib.hid own2
      have HF := Lib.hid (dfind_walk l N a1 c1 w2.heap.size b.pid w2 HNe.out (by omega) (ownN_sl own2) (Nat.le_refl _))
      unfold IxfPost at HF
      have hz12 : w.heap.size < w1.heap.size := by omega
      clear own2
      go_wp2_with fail
      refine HF.out.mono ?_
      rintro e w3 (⟨k, hkN, HL, HE, rfl, g3⟩ | ⟨HL, rfl, g3⟩)
      · have W3 := W2.keep g3
        have X3 := X2.keep g3
        have own3 := own_keep HO2.out g3
        have b3 := gtrans b2 g3
        clear HF HO2 W2 X2 b2 x0 x1 x2 x3 x4
        obtain ⟨x0, x1, x2, x3, x4, hg3⟩ := W3.five
        obtain ⟨⟨y0, y1, y2, y3, y4⟩, hg4⟩ := X3.fiveP
        have hil : k < l.length := by rw [HNe.out]; exact hkN
        obtain ⟨gg, rfl, hgb, hgl, r0, r1, r2, r3, r4⟩ := own_pr own3 hil
        have hA := ntIs_at HD.out HP.out hil HL.out HE.out
        have hkN2 : (k : Int) < (N : Int) := by omega
        have hk0 : 0 ≤ (k : Int) := by omega
        have HO3 := Lib.hid own3
        have hdr := fun n => (ownN_drewN own3 n)
        have HDR := Lib.hid hdr
        clear own3 hdr
        obtain ⟨q, hq⟩ : ∃ q, (l.getD k pr0).e = q := ⟨_, rfl⟩
        rw [hq] at r1 hA
        clear hq
        rcases hA with ⟨hm, he, hDe⟩ | ⟨hm, hDe⟩
        · have hd : decide (q < b.epoch) = false := decide_eq_false he
          have HDe := Lib.hid hDe
          clear hm he hDe
          go_wp2_with fail
          go_quiet (fail)
          go_wp2_with fail
          go_ret
          exact own_end (ownN_base (HDR.out _) (by omega)) (by rw [HDe.out]) (by rw [HDe.out, HNe.out]) (b3.trans (below_drewN _ _ _))
        · have hd : decide (q < b.epoch) = true := decide_eq_true (by rcases hm with h | h; cases h; exact h)
          have HDe := Lib.hid hDe
          clear hm hDe
          go_wp2_with fail
          go_quiet (fail)
          have x0 : (w3.drewN nq).cell? ⟨w1.heap.size, 0, none⟩ = _ := y0
          have x1 : (w3.drewN nq).cell? ⟨w1.heap.size, 1, none⟩ = _ := y1
          have x2 : (w3.drewN nq).cell? ⟨w1.heap.size, 2, none⟩ = _ := y2
          have x3 : (w3.drewN nq).cell? ⟨w1.heap.size, 3, none⟩ = _ := y3
          have x4 : (w3.drewN nq).cell? ⟨w1.heap.size, 4, none⟩ = _ := y4
          have s0 : (w3.drewN nq).cell? ⟨gg, k * 5, none⟩ = _ := r0
          have s1 : (w3.drewN nq).cell? ⟨gg, k * 5 + 1, none⟩ = _ := r1
          have s2 : (w3.drewN nq).cell? ⟨gg, k * 5 + 2, none⟩ = _ := r2
          have s3 : (w3.drewN nq).cell? ⟨gg, k * 5 + 3, none⟩ = _ := r3
          have s4 : (w3.drewN nq).cell? ⟨gg, k * 5 + 4, none⟩ = _ := r4
          have own4 := HDR.out nq
          have b4 := b3.trans (below_drewN _ w3 nq)
          have hgl4 : gg < (w3.drewN nq).heap.size := hgl
          generalize w3.drewN nq = w4 at *
          obtain ⟨hf, own5⟩ := pr_store5 own4 hil ⟨b.pid, b.epoch, 0, 0, o⟩
          obtain ⟨e0, e1, e2, e3, e4⟩ := hf
          have b5 := below_store5 b4 gg (k * 5) (by omega) (.int .i64 b.pid) (.int .i64 b.epoch) (.int .i64 0) (.int .i64 0) (.int .i64 o)
          clear own4 y0 y1 y2 y3 y4 r0 r1 r2 r3 r4
          go_wp2_with fail
          go_ret
          exact own_end (ownN_base own5 (by omega)) (by rw [HDe.out]) (by rw [HDe.out, List.length_set, HNe.out]) b5
      · have W3 := W2.keep g3
        have X3 := X2.keep g3
        have own3 := own_keep HO2.out g3
        have b3 := gtrans b2 g3
        clear HF HO2 W2 X2 b2 x0 x1 x2 x3 x4
        obtain ⟨x0, x1, x2, x3, x4, hg3⟩ := W3.five
        obtain ⟨⟨y0, y1, y2, y3, y4⟩, hg4⟩ := X3.fiveP
        have HI := Lib.hid (dins_walk l N a1 c1 (w.heap.size + 1) ⟨b.pid, b.epoch, 0, 0, o⟩ w3 D HNe.out hNm (ntIs_none HD.out HP.out (fun p hp => HL.out p (by rw [← HNe.out]; exact hp))) own3 (by omega))
        simp only at HI
        unfold OwnPost at HI
        clear own3
        go_wp2_with fail
        refine HI.out.mono ?_
        rintro e w5 ⟨a5, c5, rfl, own5, g5⟩
        go_wp2_with fail
        go_ret
        exact own_end (ownN_base own5 (by omega)) rfl rfl (b3.trans (g5.mono (by omega)))
    · obtain rfl := hxe
      have hd2 : decide (2 < b.kind) = false := decide_eq_false hk
      clear HX
      unfold bv
      go_enter Try.func19, Try.ntmps19
      go_wp2_with fail
      refine HC.out.mono ?_
      rintro e w1 ⟨a1, c1, rfl, own1, g1⟩
      have W1 := hW.keep g1
      obtain ⟨x0, x1, x2, x3, x4, hg1⟩ := W1.five
      have halx := balloc w1 (.cells #[.int .i64 b.pid, .int .i64 b.epoch, .int .i64 b.seq, .int .i64 b.l.length, .int .i64 o] 44)
      have X2 := Whole.new w1 44 #[.int .i64 b.pid, .int .i64 b.epoch, .int .i64 b.seq, .int .i64 b.l.length, .int .i64 o]
      have W2 := W1.keep halx
      have own2 := own_keep own1 halx
      have b1 := gtrans hal g1
      have b2 := gtrans b1 halx
      have hz1 : w.heap.size + 1 ≤ w1.heap.size := by have := g1.size; simp at this; omega
      have hz0 : (w.alloc (.cells (bvc b ab cb) 25)).heap.size = w.heap.size + 1 := by simp
      rw [hz0] at own2
      go_upto_region 8 with fail
      obtain ⟨w2, hw2⟩ : ∃ w2, w2 = w1.alloc (.cells #[.int .i64 b.pid, .int .i64 b.epoch, .int .i64 b.seq, .int .i64 b.l.length, .int .i64 o] 44) := ⟨_, rfl⟩
      rw [← hw2] at halx X2 W2 own2 b2 ⊢
      have hz2 : w1.heap.size < w2.heap.size := X2.lt
      clear hw2 x0 x1 x2 x3 x4 own1 g1 b1 halx W1
      obtain ⟨x0, x1, x2, x3, x4, hg2⟩ := W2.five
      have HO2 := Lib.hid own2
      have HF := Lib.hid (dfind_walk l N a1 c1 w2.heap.size b.pid w2 HNe.out (by omega) (ownN_sl own2) (Nat.le_refl _))
      unfold IxfPost at HF
      have hz12 : w.heap.size < w1.heap.size := by omega
      clear own2
      go_wp2_with fail
      refine HF.out.mono ?_
      rintro e w3 (⟨k, hkN, HL, HE, rfl, g3⟩ | ⟨HL, rfl, g3⟩)
      · have W3 := W2.keep g3
        have X3 := X2.keep g3
        have own3 := own_keep HO2.out g3
        have b3 := gtrans b2 g3
        clear HF HO2 W2 X2 b2 x0 x1 x2 x3 x4
        obtain ⟨x0, x1, x2, x3, x4, hg3⟩ := W3.five
        obtain ⟨⟨y0, y1, y2, y3, y4⟩, hg4⟩ := X3.fiveP
        have hil : k < l.length := by rw [HNe.out]; exact hkN
        obtain ⟨gg, rfl, hgb, hgl, r0, r1, r2, r3, r4⟩ := own_pr own3 hil
        have hA := ntIs_at HD.out HP.out hil HL.out HE.out
        have hkN2 : (k : Int) < (N : Int) := by omega
        have hk0 : 0 ≤ (k : Int) := by omega
        have HO3 := Lib.hid own3
        have hdr := fun n => (ownN_drewN own3 n)
        have HDR := Lib.hid hdr
        clear own3 hdr
        obtain ⟨q, hq⟩ : ∃ q, (l.getD k pr0).e = q := ⟨_, rfl⟩
        rw [hq] at r1 hA
        clear hq
        rcases hA with ⟨hm, he, hDe⟩ | ⟨hm, hDe⟩
        · cases hm
        · have HDe := Lib.hid hDe
          clear hm hDe
          go_wp2_with fail
          go_quiet (fail)
          have x0 : (w3.drewN nq).cell? ⟨w1.heap.size, 0, none⟩ = _ := y0
          have x1 : (w3.drewN nq).cell? ⟨w1.heap.size, 1, none⟩ = _ := y1
          have x2 : (w3.drewN nq).cell? ⟨w1.heap.size, 2, none⟩ = _ := y2
          have x3 : (w3.drewN nq).cell? ⟨w1.heap.size, 3, none⟩ = _ := y3
          have x4 : (w3.drewN nq).cell? ⟨w1.heap.size, 4, none⟩ = _ := y4
          have s0 : (w3.drewN nq).cell? ⟨gg, k * 5, none⟩ = _ := r0
          have s1 : (w3.drewN nq).cell? ⟨gg, k * 5 + 1, none⟩ = _ := r1
          have s2 : (w3.drewN nq).cell? ⟨gg, k * 5 + 2, none⟩ = _ := r2
          have s3 : (w3.drewN nq).cell? ⟨gg, k * 5 + 3, none⟩ = _ := r3
          have s4 : (w3.drewN nq).cell? ⟨gg, k * 5 + 4, none⟩ = _ := r4
          have own4 := HDR.out nq
          have b4 := b3.trans (below_drewN _ w3 nq)
          have hgl4 : gg < (w3.drewN nq).heap.size := hgl
          generalize w3.drewN nq = w4 at *
          obtain ⟨hf, own5⟩ := pr_store5 own4 hil ⟨b.pid, b.epoch, b.seq, b.l.length, o⟩
          obtain ⟨e0, e1, e2, e3, e4⟩ := hf
          have b5 := below_store5 b4 gg (k * 5) (by omega) (.int .i64 b.pid) (.int .i64 b.epoch) (.int .i64 b.seq) (.int .i64 b.l.length) (.int .i64 o)
          clear own4 y0 y1 y2 y3 y4 r0 r1 r2 r3 r4
          go_wp2_with fail
          go_ret
          exact own_end (ownN_base own5 (by omega)) (by rw [HDe.out]) (by rw [HDe.out, List.length_set, HNe.out]) b5
      · have W3 := W2.keep g3
        have X3 := X2.keep g3
        have own3 := own_keep HO2.out g3
        have b3 := gtrans b2 g3
        clear HF HO2 W2 X2 b2 x0 x1 x2 x3 x4
        obtain ⟨x0, x1, x2, x3, x4, hg3⟩ := W3.five
        obtain ⟨⟨y0, y1, y2, y3, y4⟩, hg4⟩ := X3.fiveP
        have HI := Lib.hid (dins_walk l N a1 c1 (w.heap.size + 1) ⟨b.pid, b.epoch, b.seq, b.l.length, o⟩ w3 D HNe.out hNm (ntIs_none HD.out HP.out (fun p hp => HL.out p (by rw [← HNe.out]; exact hp))) own3 (by omega))
        simp only at HI
        unfold OwnPost at HI
        clear own3
        go_wp2_with fail
        refine HI.out.mono ?_
        rintro e w5 ⟨a5, c5, rfl, own5, g5⟩
        go_wp2_with fail
        go_ret
        exact own_end (ownN_base own5 (by omega)) rfl rfl (b3.trans (g5.mono (by omega)))
end Go.Proofs.Ytfjnmjibifefgaa
