/- The walks of mail.List and mail.Take. -/
import Derived.Test.YtkechaniaidieaaMlDel
import Derived.Test.YtkechaniaidieaaPkCl
import Derived.Handy
import Derived.Laws.ResultCell
namespace Go.Proofs.Ytkechaniaidieaa
open Go.RowKit Vm
set_option linter.unusedVariables false
set_option linter.unusedSimpArgs false

theorem mlist_walk (g : Nat) (s : Int) (L : List Pk) (a : Option Addr) (c : Nat) (w : World) (hL : L.length ≤ 256) (h : MA w g s L a c) :
    Calls Try.prog 18 #[.pointer (some ⟨g, 0, none⟩)] w fun e w' => ∃ a' c', e = .returned (.slice a' L.length c') ∧ w'.ownsRow w.heap.size 37 4 (.slice a' L.length c') L.length (pkCells L) ∧ Below w.heap.size w w' := by
  obtain ⟨m0, m1, f0, f1, hg⟩ := h.two
  have K := Lib.hid (clone_pk L L.length a c w.heap.size w rfl (by omega) (ownN_sl h.2) (Nat.le_refl _))
  clear h
  go_enter Try.func18, Try.ntmps18
  go_wp2_with fail
  refine K.out.mono ?_
  rintro e w1 ⟨a1, c1, rfl, own1, g1⟩
  go_wp2_with fail
  go_ret
  exact ⟨a1, c1, rfl, own1, g1⟩
def pkV (x : Pk) : Value := .agg #[.int .i64 x.n, .int .i64 x.d, .int .i64 x.f, .string (str x.x)]
def TPost (w : World) (g : Nat) (a : Option Addr) (x : Pk) (E s : Int) (L' : List Pk) (e : Ending) (w' : World) : Prop :=
  e = .returned (.tuple #[pkV x, .int .i64 E]) ∧ ∃ a' c', MA w' g s L' a' c' ∧ Mv w w' g a ∧ Ab w a a' ∧ Below g w w'
theorem st4 {w : World} {A : Nat} {t : TypeId} {a b c d : Value} (h : Whole w A t #[a, b, c, d]) (x0 x1 x2 x3 : Value) :
    Whole ((((w.setCell ⟨A, 0, none⟩ x0).setCell ⟨A, 1, none⟩ x1).setCell ⟨A, 2, none⟩ x2).setCell ⟨A, 3, none⟩ x3) A t #[x0, x1, x2, x3] ∧
    Below A w ((((w.setCell ⟨A, 0, none⟩ x0).setCell ⟨A, 1, none⟩ x1).setCell ⟨A, 2, none⟩ x2).setCell ⟨A, 3, none⟩ x3) ∧
    ∀ k, k ≠ A → ((((w.setCell ⟨A, 0, none⟩ x0).setCell ⟨A, 1, none⟩ x1).setCell ⟨A, 2, none⟩ x2).setCell ⟨A, 3, none⟩ x3).heap[k]? = w.heap[k]? := by
  refine ⟨?_, ((((Below.refl A w).setCell (p := ⟨A, 0, none⟩) (Nat.le_refl _) x0).setCell (p := ⟨A, 1, none⟩) (Nat.le_refl _) x1).setCell (p := ⟨A, 2, none⟩) (Nat.le_refl _) x2).setCell (p := ⟨A, 3, none⟩) (Nat.le_refl _) x3, fun k hk => ?_⟩
  · have h3 := (((h.set 0 x0).set 1 x1).set 2 x2).set 3 x3
    simpa using h3
  · exact (Below.heap_setCell _ ⟨A, 3, none⟩ x3 k hk).trans ((Below.heap_setCell _ ⟨A, 2, none⟩ x2 k hk).trans ((Below.heap_setCell _ ⟨A, 1, none⟩ x1 k hk).trans (Below.heap_setCell _ ⟨A, 0, none⟩ x0 k hk)))
theorem Whole.four {w : World} {g : Nat} {t : TypeId} {a b c d : Value} (h : Whole w g t #[a, b, c, d]) :
    (w.cell? ⟨g, 0, none⟩ = some a ∧ w.cell? ⟨g, 1, none⟩ = some b ∧ w.cell? ⟨g, 2, none⟩ = some c ∧ w.cell? ⟨g, 3, none⟩ = some d) ∧
    (w.frozen? ⟨g, 0, none⟩ = false ∧ w.frozen? ⟨g, 1, none⟩ = false ∧ w.frozen? ⟨g, 2, none⟩ = false ∧ w.frozen? ⟨g, 3, none⟩ = false) ∧ g < w.heap.size :=
  ⟨⟨h.cell 0, h.cell 1, h.cell 2, h.cell 3⟩, ⟨h.frozen 0, h.frozen 1, h.frozen 2, h.frozen 3⟩, h.lt⟩
theorem res_pk (tmps : Array Value) (r : Nat) (c0 c1 c2 c3 v : Value) (w : World) (h4 : tmps.getD 4 undef = .pointer (some ⟨r, 0, none⟩)) (h5 : tmps.getD 5 undef = v) (r0 : w.cell? ⟨r, 0, none⟩ = some c0) (r1 : w.cell? ⟨r, 1, none⟩ = some c1) (r2 : w.cell? ⟨r, 2, none⟩ = some c2) (r3 : w.cell? ⟨r, 3, none⟩ = some c3) :
    (results Try.f12 tmps).run Try.prog w = .ok (.tuple #[.agg #[c0, c1, c2, c3], v]) w := by
  rw [results_cell_tmp rfl, h4, h5]
  go_simp
set_option maxRecDepth 100000 in
theorem take_nil (p : Int) (w : World) : Calls Try.prog 12 #[.pointer none, .int .i64 p] w fun e w' => e = .returned (.tuple #[pkV pk0, .int .i64 6]) ∧ Below w.heap.size w w' := by
  have hal := balloc w (.cells #[.int .i64 0, .int .i64 0, .int .i64 0, .string ByteArray.empty] 37)
  have R1 := Whole.new w 37 #[.int .i64 0, .int .i64 0, .int .i64 0, .string ByteArray.empty]
  have K := Lib.hid (fun w => mhas_nil p w)
  go_enter Try.func12, Try.ntmps12
  go_wp2_with fail
  refine (K.out _).mono ?_
  rintro e w1 ⟨rfl, g1⟩
  have R2 := R1.keep g1
  obtain ⟨⟨r0, r1, r2, r3⟩, ⟨f0, f1, f2, f3⟩, hl⟩ := R2.four
  obtain ⟨R3, b3, _⟩ := st4 R2 (.int .i64 0) (.int .i64 0) (.int .i64 0) (.string ByteArray.empty)
  obtain ⟨⟨q0, q1, q2, q3⟩, _, _⟩ := R3.four
  go_wp2_with fail
  refine bodyPost_ret (res_pk _ _ _ _ _ _ _ _ rfl rfl q0 q1 q2 q3) rfl ?_
  exact ⟨rfl, (gtrans hal g1).trans b3⟩
set_option maxRecDepth 100000 in
set_option maxHeartbeats 4000000 in
theorem mtake_no (g : Nat) (s : Int) (L : List Pk) (a : Option Addr) (c : Nat) (p : Int) (w : World) (hp : ¬ (0 ≤ p ∧ p < (L.length : Int))) (h : MA w g s L a c) :
    Calls Try.prog 12 #[.pointer (some ⟨g, 0, none⟩), .int .i64 p] w (TPost w g a pk0 6 s L) := by
  have hal := balloc w (.cells #[.int .i64 0, .int .i64 0, .int .i64 0, .string ByteArray.empty] 37)
  have R1 := Whole.new w 37 #[.int .i64 0, .int .i64 0, .int .i64 0, .string ByteArray.empty]
  have M1 := h.keep hal
  have K := Lib.hid (mhas_walk g s L a c p _ false (.inr ⟨hp, rfl⟩) M1)
  have HM := Lib.hid h
  clear hp h
  go_enter Try.func12, Try.ntmps12
  go_wp2_with fail
  refine K.out.mono ?_
  rintro e w1 ⟨rfl, g1⟩
  have R2 := R1.keep g1
  obtain ⟨⟨r0, r1, r2, r3⟩, ⟨f0, f1, f2, f3⟩, hl⟩ := R2.four
  obtain ⟨R3, b3, _⟩ := st4 R2 (.int .i64 0) (.int .i64 0) (.int .i64 0) (.string ByteArray.empty)
  obtain ⟨⟨q0, q1, q2, q3⟩, _, _⟩ := R3.four
  go_wp2_with fail
  refine bodyPost_ret (res_pk _ _ _ _ _ _ _ _ rfl rfl q0 q1 q2 q3) rfl ?_
  have b := (gtrans hal g1).trans b3
  exact ⟨rfl, a, c, HM.out.keep b, Mv.below b, Ab.refl w a, b.mono (Nat.le_of_lt HM.out.1.lt)⟩
theorem ownN_ne {w : World} {base n size : Nat} {e : TypeId} {v : Value} {xs : List Value} {w' : World} (h : w.ownsRow base e size v n xs) (hk : ∀ k, v.ownBlock = some k → w'.heap[k]? = w.heap[k]?) : w'.ownsRow base e size v n xs := by
  obtain ⟨hl, hr⟩ := h
  rcases hr with h0 | ⟨g, cap, cur, rfl, hg, hh, r⟩
  · exact ⟨hl, .inl h0⟩
  · exact ⟨hl, .inr ⟨g, cap, cur, rfl, hg, (hk g rfl).trans hh, r⟩⟩
set_option maxRecDepth 100000 in
set_option maxHeartbeats 8000000 in
theorem mtake_yes (g : Nat) (s : Int) (L : List Pk) (a : Option Addr) (c : Nat) (k : Nat) (w : World) (hL : L.length ≤ 256) (hk : k < L.length) (h : MA w g s L a c) :
    Calls Try.prog 12 #[.pointer (some ⟨g, 0, none⟩), .int .i64 k] w (TPost w g a (L.getD k pk0) 0 s (delL L k)) := by
  have hal := balloc w (.cells #[.int .i64 0, .int .i64 0, .int .i64 0, .string ByteArray.empty] 37)
  have R1 := Whole.new w 37 #[.int .i64 0, .int .i64 0, .int .i64 0, .string ByteArray.empty]
  have M1 := h.keep hal
  have hgw := h.1.lt
  have K := Lib.hid (mhas_walk g s L a c k _ true (.inl ⟨⟨by omega, by omega⟩, rfl⟩) M1)
  obtain ⟨n, hn⟩ : ∃ n, L.length = n := ⟨_, rfl⟩
  have HN := Lib.hid hn
  obtain ⟨gb, rfl, hgb, hgl, _⟩ := ownN_at h.2 (by omega)
  have HM := Lib.hid h
  have hkn : k < n := by omega
  have hn256 : n ≤ 256 := by omega
  have hkn2 : (k : Int) < (n : Int) := by omega
  have hk0 : 0 ≤ (k : Int) := by omega
  have hwk : IntKind.i64.wrap ((k : Int) + 1) = ((k + 1 : Nat) : Int) := by rw [IntWalk.i64_in _ (by omega)]; omega
  have hkL := Lib.hid hk
  obtain ⟨x, hx⟩ : ∃ x, L.getD k pk0 = x := ⟨_, rfl⟩
  rw [hx]
  have HX := Lib.hid hx
  clear h hn hk hL hx M1
  go_enter Try.func12, Try.ntmps12
  go_wp2_with fail
  refine K.out.mono ?_
  rintro e w2 ⟨rfl, g2⟩
  have t2 := gtrans hal g2
  have M2 := HM.out.keep t2
  have R2 := R1.keep g2
  have hrl := R2.lt
  obtain ⟨m0, m1, f0, f1, hg2⟩ := M2.two
  rw [HN.out] at m1
  obtain ⟨gb', e, _, hgl2, _, hcc⟩ := ownN_at M2.2 (by have := HN.out; omega)
  injection e with e
  injection e with e1 _ _
  subst e1
  have hat := pkCells_at L k hkL.out
  rw [HX.out] at hat
  have c0 := hcc _ _ hat.1
  have c1 := hcc _ _ hat.2.1
  have c2 := hcc _ _ hat.2.2.1
  have c3 := hcc _ _ hat.2.2.2
  have hax := balloc w2 (.cells #[.int .i64 x.n, .int .i64 x.d, .int .i64 x.f, .string (str x.x)] 37)
  have X3 := Whole.new w2 37 #[.int .i64 x.n, .int .i64 x.d, .int .i64 x.f, .string (str x.x)]
  have M3 := M2.keep hax
  have R3 := R2.keep hax
  have t3 := gtrans t2 hax
  clear hcc hat K M2 hal R1
  go_upto_region 4 with fail
  obtain ⟨w3, hw3⟩ : ∃ w3, w3 = w2.alloc (.cells #[.int .i64 x.n, .int .i64 x.d, .int .i64 x.f, .string (str x.x)] 37) := ⟨_, rfl⟩
  rw [← hw3] at hax X3 M3 R3 t3 ⊢
  clear hw3 c0 c1 c2 c3 m0 m1 f0 f1
  have hz3 := hax.size
  have hx3 := X3.lt
  obtain ⟨m0, m1, f0, f1, hg3⟩ := M3.two
  obtain ⟨W3, O3⟩ := M3
  rw [HN.out] at m1 W3 O3
  have D := Lib.hid (mdel_walk L n gb c (g + 1) k w3 HN.out hn256 hkn O3 hgb)
  unfold DelPost at D
  go_wp2_with fail
  refine D.out.mono ?_
  rintro e w4 ⟨rfl, O4, hz4, hk4, b4⟩
  have hne : g ≠ gb := by omega
  have W4 : Whole w4 g 56 #[.int .i64 s, .slice (some ⟨gb, 0, none⟩) n c] := (hk4 g (by omega) hne).trans W3
  have R4 : Whole w4 w.heap.size 37 #[.int .i64 0, .int .i64 0, .int .i64 0, .string ByteArray.empty] := (hk4 _ (by omega) (by omega)).trans R3
  have X4 : Whole w4 w2.heap.size 37 #[.int .i64 x.n, .int .i64 x.d, .int .i64 x.f, .string (str x.x)] := (hk4 _ (by omega) (by omega)).trans X3
  have W5 := W4.set 1 (.slice (some ⟨gb, 0, none⟩) (delL L k).length c)
  have O5 := ownN_far0 O4 g 1 (.slice (some ⟨gb, 0, none⟩) (delL L k).length c) (Nat.lt_succ_self g)
  have R5 := R4.far g 1 (.slice (some ⟨gb, 0, none⟩) (delL L k).length c) (by omega)
  have X5 := X4.far g 1 (.slice (some ⟨gb, 0, none⟩) (delL L k).length c) (by omega)
  have hk5 : ∀ q, q ≠ g → (w4.setCell ⟨g, 1, none⟩ (.slice (some ⟨gb, 0, none⟩) (delL L k).length c)).heap[q]? = w4.heap[q]? := fun q hq => Below.heap_setCell w4 ⟨g, 1, none⟩ _ q hq
  have hz5 : (w4.setCell ⟨g, 1, none⟩ (.slice (some ⟨gb, 0, none⟩) (delL L k).length c)).heap.size = w4.heap.size := by simp
  have b5 := b4.mono (show g ≤ gb by omega) |>.setCell (p := ⟨g, 1, none⟩) (Nat.le_refl g) (.slice (some ⟨gb, 0, none⟩) (delL L k).length c)
  clear m0 m1 f0 f1
  have m1 := W4.cell 1
  have f1 := W4.frozen 1
  simp only [List.getElem?_toArray, List.getElem?_cons_zero, List.getElem?_cons_succ] at m1
  go_upto_region 5 with fail
  obtain ⟨w5, hw5⟩ : ∃ w5, w5 = w4.setCell ⟨g, 1, none⟩ (.slice (some ⟨gb, 0, none⟩) (delL L k).length c) := ⟨_, rfl⟩
  rw [← hw5] at W5 O5 R5 X5 hk5 hz5 b5 ⊢
  clear hw5 m1 f1
  obtain ⟨⟨r0, r1, r2, r3⟩, ⟨f0, f1, f2, f3⟩, hl⟩ := R5.four
  obtain ⟨⟨y0, y1, y2, y3⟩, _, hl2⟩ := X5.four
  obtain ⟨R6, b6, hk6⟩ := st4 R5 (.int .i64 x.n) (.int .i64 x.d) (.int .i64 x.f) (.string (str x.x))
  obtain ⟨⟨q0, q1, q2, q3⟩, _, _⟩ := R6.four
  have HK := Lib.hid hk6
  have HR6 := Lib.hid b6
  clear hk6 b6
  go_wp2_with fail
  refine bodyPost_ret (res_pk _ _ _ _ _ _ _ _ rfl rfl q0 q1 q2 q3) rfl ?_
  have hsz := HR6.out.size
  refine ⟨rfl, some ⟨gb, 0, none⟩, c, ⟨(HK.out g (by omega)).trans W5, ownN_ne O5 (fun q hq => HK.out q (by have := (O5.lt q hq).2; injection hq with hq; have hq2 : gb = q := hq; omega))⟩, ⟨by have := t3.size; omega, fun q hq1 hq2 hq3 => ?_⟩, Ab.refl _ _, (t3.mono (Nat.le_of_lt hgw)).trans (b5.trans (HR6.out.mono (Nat.le_of_lt hgw)))⟩
  rw [HK.out q (by omega), hk5 q hq2, hk4 q (by have := t3.size; omega) (fun hh => hq3 _ rfl hh.symm)]
  exact t3.block q hq1
/-- What taking answers. -/
def TakeIs (L : List Pk) (p : Int) (x : Pk) (E : Int) (L' : List Pk) : Prop := (¬ (0 ≤ p ∧ p < (L.length : Int)) ∧ x = pk0 ∧ E = 6 ∧ L' = L) ∨ ∃ k : Nat, p = k ∧ k < L.length ∧ x = L.getD k pk0 ∧ E = 0 ∧ L' = delL L k
theorem takeIs_ex (L : List Pk) (p : Int) : ∃ x E L', TakeIs L p x E L' := by
  by_cases h : 0 ≤ p ∧ p < (L.length : Int)
  · exact ⟨_, _, _, .inr ⟨p.toNat, by omega, by omega, rfl, rfl, rfl⟩⟩
  · exact ⟨_, _, _, .inl ⟨h, rfl, rfl, rfl⟩⟩
theorem mtake_walk (g : Nat) (s : Int) (L : List Pk) (a : Option Addr) (c : Nat) (p : Int) (w : World) (x : Pk) (E : Int) (L' : List Pk) (hT : TakeIs L p x E L') (hL : L.length ≤ 256) (h : MA w g s L a c) :
    Calls Try.prog 12 #[.pointer (some ⟨g, 0, none⟩), .int .i64 p] w (TPost w g a x E s L') := by
  rcases hT with ⟨hp, rfl, rfl, rfl⟩ | ⟨k, rfl, hk, rfl, rfl, rfl⟩
  · exact mtake_no g s L' a c p w hp h
  · exact mtake_yes g s L a c k w hL hk h
end Go.Proofs.Ytkechaniaidieaa
