/- Coops for the laws: a coop with the blocks that it has; each call; awake. -/
import Derived.Test.YtafibgekikjlhaaCoJoin2
namespace Go.Proofs.Ytafibgekikjlhaa
open Go.RowKit Vm As
set_option linter.unusedVariables false
set_option linter.unusedSimpArgs false

def CA (w : World) (g : Nat) (C : Co) (S : Nat → Prop) : Prop := ∃ a ca b cb d cd, CoW w g C a ca b cb d cd ∧ S = CF g a b d
def CQ (g : Nat) (S : Nat → Prop) (C' : Co) (E : Value) (w : World) (e : Ending) (w' : World) : Prop := e = .returned E ∧ ∃ S', CA w' g C' S' ∧ Mvs w w' S S'
theorem CA.live {w : World} {g : Nat} {C : Co} {S : Nat → Prop} (h : CA w g C S) : ∀ k, S k → k < w.heap.size := by
  obtain ⟨a, ca, b, cb, d, cd, h, rfl⟩ := h
  exact h.live
theorem CA.keep {w w' : World} {g : Nat} {C : Co} {S : Nat → Prop} (h : CA w g C S) (hb : Below w.heap.size w w') : CA w' g C S := by
  obtain ⟨a, ca, b, cb, d, cd, h, rfl⟩ := h
  exact ⟨a, ca, b, cb, d, cd, h.keep hb, rfl⟩
/-- A slice that lies apart from the coop. -/
def Apt (w : World) (S : Nat → Prop) (a : Option Addr) (xs : List Value) : Prop := Sl w w.heap.size a xs ∧ ∀ x, a = some x → ¬ S x.block ∧ x.block < w.heap.size
theorem Apt.mvs {w w' : World} {S S' : Nat → Prop} {a : Option Addr} {xs : List Value} (h : Apt w S a xs) (hm : Mvs w w' S S') : Apt w' S' a xs :=
  ⟨h.1.mvs hm (fun x hx => (h.2 x hx).1), fun x hx => ⟨hm.out (h.2 x hx).2 (h.2 x hx).1, Nat.lt_of_lt_of_le (h.2 x hx).2 hm.size⟩⟩
theorem Apt.keep {w w' : World} {S : Nat → Prop} {a : Option Addr} {xs : List Value} (h : Apt w S a xs) (hb : Below w.heap.size w w') : Apt w' S a xs := h.mvs (Mvs.below S hb)
theorem Apt.own {w w' : World} {S : Nat → Prop} {a : Option Addr} {e : TypeId} {n c size : Nat} {xs : List Value} (hl : ∀ k, S k → k < w.heap.size) (ho : w'.ownsRow w.heap.size e size (.slice a n c) n xs) : Apt w' S a xs :=
  ⟨ownN_sl ho, fun x hx => ⟨fun hS => by have := hl _ hS; have := (own_low ho x hx).1; omega, (own_low ho x hx).2⟩⟩
theorem join_ca (K : Nat) (l : List Int) (N : Nat) (al : Option Addr) (cl : Nat) (C : Co) (g : Nat) (S : Nat → Prop) (w : World) (hK : K ≤ 800) (hok : COk C K) (hl : LApt w S l N al cl) (h : CA w g C S) :
    Calls Try.prog 19 #[.pointer (some ⟨g, 0, none⟩), .slice al N cl] w (CQ g S (joinC C l) (.int .i64 (joinE C l)) w) := by
  obtain ⟨a, ca, b, cb, d, cd, h, rfl⟩ := h
  exact (cjoin_walk K l N al cl C g a ca b cb d cd w hK hok hl h).mono fun e w' ⟨he, a', ca', b', cb', d', cd', h1, h2⟩ => ⟨he, _, ⟨a', ca', b', cb', d', cd', h1, rfl⟩, h2⟩
theorem leave_ca (K : Nat) (m : Int) (C : Co) (g : Nat) (S : Nat → Prop) (w : World) (hK : K ≤ 800) (hok : COk C K) (h : CA w g C S) :
    Calls Try.prog 21 #[.pointer (some ⟨g, 0, none⟩), .int .i64 m] w (CQ g S (leaveC C m) (.int .i64 (leaveE C m)) w) := by
  obtain ⟨a, ca, b, cb, d, cd, h, rfl⟩ := h
  exact (cleave_walk K m C g a ca b cb d cd w hK hok h).mono fun e w' ⟨he, a', ca', b', cb', d', cd', h1, h2⟩ => ⟨he, _, ⟨a', ca', b', cb', d', cd', h1, rfl⟩, h2⟩
theorem done_ca (K : Nat) (m p : Int) (C : Co) (g : Nat) (S : Nat → Prop) (w : World) (hok : COk C K) (h : CA w g C S) :
    Calls Try.prog 25 #[.pointer (some ⟨g, 0, none⟩), .int .i64 m, .int .i64 p] w (CQ g S (doneC C m p) (.int .i64 (doneE C m p)) w) := by
  obtain ⟨a, ca, b, cb, d, cd, h, rfl⟩ := h
  exact (cdone_walk m p C g a ca b cb d cd w (by have := hok.b.ml; omega) (by have := hok.b.h1; omega) hok.b.wl h).mono fun e w' ⟨he, a', ca', b', cb', d', cd', h1, h2⟩ => ⟨he, _, ⟨a', ca', b', cb', d', cd', h1, rfl⟩, h2⟩
/-- A row told. -/
def RowQ (S : Nat → Prop) (n : Nat) (xs : List Value) (w : World) (e : Ending) (w' : World) : Prop := ∃ a' c', e = .returned (.slice a' n c') ∧ Apt w' S a' xs ∧ Below w.heap.size w w'
def RevQ (S : Nat → Prop) (n : Nat) (xs : List Value) (E : Int) (w : World) (e : Ending) (w' : World) : Prop := ∃ a' c', e = .returned (.tuple #[.slice a' n c', .int .i64 E]) ∧ Apt w' S a' xs ∧ Below w.heap.size w w'
theorem revoke_ca (K : Nat) (m : Int) (C : Co) (g : Nat) (S : Nat → Prop) (w : World) (hok : COk C K) (h : CA w g C S) :
    Calls Try.prog 23 #[.pointer (some ⟨g, 0, none⟩), .int .i64 m] w (RevQ S (revL C m).length (i64s (revL C m)) (revE C m) w) := by
  have hl := h.live
  obtain ⟨a, ca, b, cb, d, cd, h, rfl⟩ := h
  exact (crevoke_walk m C g a ca b cb d cd w (by have := hok.b.ml; omega) (by have := hok.b.h1; omega) hok.b.wl h).mono fun e w' ⟨a', c', he, ho, hb⟩ => ⟨a', c', he, Apt.own hl ho, hb⟩
theorem cgen_ca (C : Co) (g : Nat) (S : Nat → Prop) (w : World) (h : CA w g C S) : Calls Try.prog 27 #[.pointer (some ⟨g, 0, none⟩)] w fun e w' => e = .returned (.int .i64 C.g) ∧ w' = w := by
  obtain ⟨a, ca, b, cb, d, cd, h, rfl⟩ := h
  exact cgen_walk C g a ca b cb d cd w h
theorem crests_ca (K : Nat) (C : Co) (g : Nat) (S : Nat → Prop) (w : World) (hok : COk C K) (h : CA w g C S) : Calls Try.prog 31 #[.pointer (some ⟨g, 0, none⟩)] w fun e w' => e = .returned (.bool (decide (C.H = C.W))) ∧ Below w.heap.size w w' := by
  obtain ⟨a, ca, b, cb, d, cd, h, rfl⟩ := h
  have h1 := hok.b.h1
  have h2 := hok.b.wl
  exact crests_walk C g a ca b cb d cd w (by omega) (by omega) h
theorem chave_ca (K : Nat) (C : Co) (g : Nat) (S : Nat → Prop) (w : World) (hok : COk C K) (h : CA w g C S) : Calls Try.prog 29 #[.pointer (some ⟨g, 0, none⟩)] w (RowQ S C.H.length (i64s C.H) w) := by
  have hl := h.live
  obtain ⟨a, ca, b, cb, d, cd, h, rfl⟩ := h
  exact (chave_walk C g a ca b cb d cd w (by have := hok.b.h1; omega) h).mono fun e w' ⟨a', c', he, ho, hb⟩ => ⟨a', c', he, Apt.own hl ho, hb⟩
theorem cwant_ca (K : Nat) (C : Co) (g : Nat) (S : Nat → Prop) (w : World) (hok : COk C K) (h : CA w g C S) : Calls Try.prog 30 #[.pointer (some ⟨g, 0, none⟩)] w (RowQ S C.W.length (i64s C.W) w) := by
  have hl := h.live
  obtain ⟨a, ca, b, cb, d, cd, h, rfl⟩ := h
  exact (cwant_walk C g a ca b cb d cd w (by have := hok.b.h1; have := hok.b.wl; omega) h).mono fun e w' ⟨a', c', he, ho, hb⟩ => ⟨a', c', he, Apt.own hl ho, hb⟩
theorem cmembers_ca (K : Nat) (C : Co) (g : Nat) (S : Nat → Prop) (w : World) (hok : COk C K) (h : CA w g C S) : Calls Try.prog 28 #[.pointer (some ⟨g, 0, none⟩)] w (RowQ S C.M.length (i64s C.M) w) := by
  have hl := h.live
  obtain ⟨a, ca, b, cb, d, cd, h, rfl⟩ := h
  exact (cmembers_walk C g a ca b cb d cd w (by have := hok.b.ml; omega) h).mono fun e w' ⟨a', c', he, ho, hb⟩ => ⟨a', c', he, Apt.own hl ho, hb⟩
def CNewQ (parts : Nat) (w : World) (e : Ending) (w' : World) : Prop := ∃ g S, e = .returned (.tuple #[.pointer (some ⟨g, 0, none⟩), .int .i64 0]) ∧ CA w' g (newC parts) S ∧ Hid (∀ k, S k → w.heap.size ≤ k) ∧ Below w.heap.size w w'
theorem cnew_ca (parts : Nat) (w : World) (h1 : 1 ≤ parts) (h2 : parts ≤ 16) : Calls Try.prog 14 #[.int .i64 parts] w (CNewQ parts w) :=
  (cnew_walk parts w h1 h2).mono fun e w' ⟨g, b, d, he, h1, h2, h3⟩ => ⟨g, _, he, ⟨none, 0, b, parts, d, parts, h1, rfl⟩, Lib.hid h2, h3⟩
/-- A literal slice of one number lies apart. -/
theorem lapt_lit {w : World} {g : Nat} {C : Co} {S : Nat → Prop} (h : CA w g C S) (x : Int) : LApt (w.alloc (.cells #[.int .i64 x] 3)) S [x] 1 (some ⟨w.heap.size, 0, none⟩) 1 :=
  ⟨rfl, by omega, by omega, sl_fresh w (i64s [x]) 3⟩
theorem stickyS {p : Int} {l m old : List Int} (h : MemIs l m) (hp : okP p = true) : stickyF p l old = stickyL p.toNat m old := by
  unfold stickyF
  rw [if_pos hp, memIs_unique (memL_is l) h]
def wC1 : Co := ⟨1, [1], [1, 1, 1, 1], [1, 1, 1, 1]⟩
def wC2 : Co := ⟨2, [1, 2], [1, 1, 1, 1], [1, 1, 2, 2]⟩
def wC3 : Co := ⟨2, [1, 2], [1, 1, 2, 1], [1, 1, 2, 2]⟩
theorem wc1 : joinC (newC 4) [1] = wC1 := by
  unfold joinC
  rw [if_pos (by decide)]
  have e0 : sortL ((newC 4).M ++ [1]) = [1] := by unfold sortL newC; simp
  have e1 : wantF { newC 4 with M := sortL ((newC 4).M ++ [1]) } = [1, 1, 1, 1] := by
    unfold wantF
    simp only [e0]
    rw [stickyS (m := [1]) ⟨by decide, fun x => by simp; omega⟩ (by decide)]; decide
  unfold begC
  rw [e1]
  simp only [e0]
  rfl
theorem wc2 : joinC wC1 [2] = wC2 := by
  unfold joinC
  rw [if_pos (by decide)]
  have e0 : sortL (wC1.M ++ [2]) = [1, 2] := by unfold sortL wC1; exact List.mergeSort_of_pairwise (by decide)
  have e1 : wantF { wC1 with M := sortL (wC1.M ++ [2]) } = [1, 1, 2, 2] := by
    unfold wantF
    simp only [e0]
    rw [stickyS (m := [1, 2]) ⟨by decide, fun x => by simp; omega⟩ (by decide)]; decide
  unfold begC
  rw [e1]
  simp only [e0]
  rfl
set_option maxRecDepth 100000 in
set_option maxHeartbeats 4000000 in
theorem awake35_walk (w : World) : Calls Try.prog 16 #[] w fun e w' => e = .returned (.bool true) ∧ Below w.heap.size w w' := by
  have K0 : COk (newC 4) 0 := newC_ok (by decide) (by decide)
  have K1 : COk wC1 1 := by have := joinC_ok (l := [1]) K0; rwa [wc1] at this
  have K2 : COk wC2 2 := by have := joinC_ok (l := [2]) K1; rwa [wc2] at this
  have K3 : COk wC3 2 := by have := doneC_ok (m := 1) (p := 2) K2; exact this
  have HN := Lib.hid (cnew_ca 4 w (by decide) (by decide))
  have J1 := Lib.hid (fun g S w al cl hl h => join_ca 0 [1] 1 al cl (newC 4) g S w (by omega) K0 hl h)
  have J2 := Lib.hid (fun g S w al cl hl h => join_ca 1 [2] 1 al cl wC1 g S w (by omega) K1 hl h)
  have X1 := Lib.hid (fun g S w h => chave_ca 1 wC1 g S w K1 h)
  have X2 := Lib.hid (fun g S w h => chave_ca 2 wC2 g S w K2 h)
  have X3 := Lib.hid (fun g S w h => chave_ca 2 wC3 g S w K3 h)
  have R2 := Lib.hid (fun g S w h => revoke_ca 2 1 wC2 g S w K2 h)
  have D2 := Lib.hid (fun g S w h => done_ca 2 1 2 wC2 g S w K2 h)
  rw [wc1, show joinE (newC 4) [1] = 0 from by decide] at J1
  rw [wc2, show joinE wC1 [2] = 0 from by decide] at J2
  rw [show revL wC2 1 = [2, 3] from by decide, show revE wC2 1 = 0 from by decide] at R2
  rw [show doneC wC2 1 2 = wC3 from by rfl, show doneE wC2 1 2 = 0 from by decide] at D2
  have S1 := Lib.hid (fun a b c d w ha hb => same_all [1, 1, 1, 1] a b c d w (by decide) ha hb)
  have S2 := Lib.hid (fun a b c d w ha hb => same_all [2, 3] a b c d w (by decide) ha hb)
  have S3 := Lib.hid (fun a b c d w ha hb => same_all [1, 1, 2, 1] a b c d w (by decide) ha hb)
  unfold CNewQ at HN
  unfold CQ at J1 J2 D2
  unfold RowQ at X1 X2 X3
  unfold RevQ at R2
  rw [show wC1.H = [1, 1, 1, 1] from rfl] at X1
  rw [show wC2.H = [1, 1, 1, 1] from rfl] at X2
  rw [show wC3.H = [1, 1, 2, 1] from rfl] at X3
  simp only [List.length_cons, List.length_nil, Nat.zero_add, Nat.reduceAdd] at X1 X2 X3 R2 S1 S2 S3
  generalize newC 4 = G0 at *
  generalize wC1 = G1 at *
  generalize wC2 = G2 at *
  generalize wC3 = G3 at *
  clear K0 K1 K2 K3
  go_enter Try.func16, Try.ntmps16
  go_wp2_with fail
  refine HN.out.mono ?_
  rintro e w0 ⟨g, Z0, rfl, A0, hZ, b0⟩
  have hal0 := balloc w0 (.cells #[.int .i64 1] 3)
  have L0 := lapt_lit A0 1
  have JJ := Lib.hid (J1.out g Z0 _ _ _ L0 (A0.keep hal0))
  have N0 := Lib.hid (Mvs.below Z0 hal0)
  clear HN J1 L0 hal0 A0
  go_wp2_with fail
  refine JJ.out.mono ?_
  rintro e w1 ⟨rfl, Z1, A1, M1⟩
  have m1 := N0.out.trans M1
  have XX := Lib.hid (X1.out g Z1 w1 A1)
  clear JJ N0 M1 X1
  go_wp2_with fail
  refine XX.out.mono ?_
  rintro e w2 ⟨a3, c3, rfl, q3, b3⟩
  have A2 := A1.keep b3
  have m2 := m1.trans (Mvs.below _ b3)
  have hal2 := balloc w2 (.cells #[.int .i64 2] 3)
  have L2 := lapt_lit A2 2
  have JJ := Lib.hid (J2.out g Z1 _ _ _ L2 (A2.keep hal2))
  have N2 := Lib.hid (m2.trans (Mvs.below Z1 hal2))
  have q4 := Lib.hid (q3.keep hal2)
  clear XX J2 L2 hal2 A2 A1 q3 m1 m2 b3
  go_wp2_with fail
  refine JJ.out.mono ?_
  rintro e w3 ⟨rfl, Z3, A3, M3⟩
  have m3 := N2.out.trans M3
  have q5 := q4.out.mvs M3
  have XX := Lib.hid (X2.out g Z3 w3 A3)
  clear JJ N2 M3 X2 q4
  go_wp2_with fail
  refine XX.out.mono ?_
  rintro e w4 ⟨a4, c4, rfl, r4, b4⟩
  have A4 := A3.keep b4
  have m4 := m3.trans (Mvs.below _ b4)
  have q6 := q5.keep b4
  have RR := Lib.hid (R2.out g Z3 w4 A4)
  clear XX A3 m3 q5 b4 R2
  go_wp2_with fail
  refine RR.out.mono ?_
  rintro e w5 ⟨a5, c5, rfl, s5, b5⟩
  have A5 := A4.keep b5
  have m5 := m4.trans (Mvs.below _ b5)
  have q7 := q6.keep b5
  have r7 := r4.keep b5
  have DD := Lib.hid (D2.out g Z3 w5 A5)
  clear RR A4 m4 q6 r4 b5 D2
  go_wp2_with fail
  refine DD.out.mono ?_
  rintro e w6 ⟨rfl, Z6, A6, M6⟩
  have hal6 := balloc w6 (.cells #[.int .i64 1, .int .i64 1, .int .i64 1, .int .i64 1] 3)
  have t6 := Lib.hid (sl_fresh w6 (i64s [1, 1, 1, 1]) 3)
  have q8 := Lib.hid ((q7.mvs M6).keep hal6)
  have r8 := Lib.hid ((r7.mvs M6).keep hal6)
  have s8 := Lib.hid ((s5.mvs M6).keep hal6)
  have A8 := Lib.hid (A6.keep hal6)
  have m8 := Lib.hid ((m5.trans M6).trans (Mvs.below _ hal6))
  clear DD A5 A6 m5 M6 q7 r7 s5 hal6
  go_wp2_with fail
  refine (S1.out _ _ _ _ _ q8.out.1 t6.out).mono ?_
  rintro e w7 ⟨rfl, b7⟩
  have hal7 := balloc w7 (.cells #[.int .i64 1, .int .i64 1, .int .i64 1, .int .i64 1] 3)
  have t7 := Lib.hid (sl_fresh w7 (i64s [1, 1, 1, 1]) 3)
  have r9 := Lib.hid ((r8.out.keep b7).keep hal7)
  have s9 := Lib.hid ((s8.out.keep b7).keep hal7)
  have A9 := Lib.hid ((A8.out.keep b7).keep hal7)
  have m9 := Lib.hid ((m8.out.trans (Mvs.below _ b7)).trans (Mvs.below _ hal7))
  clear q8 r8 s8 A8 m8 t6 b7 hal7
  go_wp2_with fail
  refine (S1.out _ _ _ _ _ r9.out.1 t7.out).mono ?_
  rintro e w8 ⟨rfl, b8⟩
  have hal8 := balloc w8 (.cells #[.int .i64 2, .int .i64 3] 3)
  have t8 := Lib.hid (sl_fresh w8 (i64s [2, 3]) 3)
  have s10 := Lib.hid ((s9.out.keep b8).keep hal8)
  have A10 := Lib.hid ((A9.out.keep b8).keep hal8)
  have m10 := Lib.hid ((m9.out.trans (Mvs.below _ b8)).trans (Mvs.below _ hal8))
  clear r9 s9 A9 m9 t7 b8 hal8 S1
  go_wp2_with fail
  refine (S2.out _ _ _ _ _ s10.out.1 t8.out).mono ?_
  rintro e w9 ⟨rfl, b9⟩
  have A11 := A10.out.keep b9
  have m11 := m10.out.trans (Mvs.below _ b9)
  have XX := Lib.hid (X3.out g Z6 w9 A11)
  clear s10 A10 m10 t8 b9 S2 X3
  go_wp2_with fail
  refine XX.out.mono ?_
  rintro e w10 ⟨a10, c10, rfl, u10, b10⟩
  have hal10 := balloc w10 (.cells #[.int .i64 1, .int .i64 1, .int .i64 2, .int .i64 1] 3)
  have t10 := Lib.hid (sl_fresh w10 (i64s [1, 1, 2, 1]) 3)
  have u11 := Lib.hid (u10.keep hal10)
  have m12 := Lib.hid ((m11.trans (Mvs.below _ b10)).trans (Mvs.below _ hal10))
  clear XX A11 m11 u10 b10 hal10
  go_wp2_with fail
  refine (S3.out _ _ _ _ _ u11.out.1 t10.out).mono ?_
  rintro e w11 ⟨rfl, b11⟩
  have m13 := m12.out.trans (Mvs.below _ b11)
  clear u11 m12 t10 b11 S3
  go_wp2_with fail
  go_ret
  exact ⟨rfl, b0.trans (m13.low hZ.out b0.size)⟩
end Go.Proofs.Ytafibgekikjlhaa
