/- The document's object heavy in memory; its walks. -/
import Derived.Test.YthghnpopcnnidaaHvCp
namespace Go.Proofs.Ythghnpopcnnidaa
open Go.RowKit Vm
set_option linter.unusedVariables false
set_option linter.unusedSimpArgs false

structure RW (w : World) (g : Nat) (H : Hv) (a : Option Addr) (c : Nat) : Prop where
  box : Whole w g 30 #[.int .i64 (H.m : Int), .int .i64 (H.s : Int), .slice a H.L.length c]
  row : w.ownsRow 0 45 3 (.slice a H.L.length c) H.L.length (taCells H.L)
theorem RW.keep {w w' : World} {g : Nat} {H : Hv} {a : Option Addr} {c : Nat} (h : RW w g H a c) (hb : Below w.heap.size w w') : RW w' g H a c := ⟨h.box.keep hb, own_keep h.row hb⟩
theorem RW.lt {w : World} {g : Nat} {H : Hv} {a : Option Addr} {c : Nat} (h : RW w g H a c) : g < w.heap.size := h.box.lt
theorem RW.neA {w : World} {g : Nat} {H : Hv} {a : Option Addr} {c : Nat} (h : RW w g H a c) : ∀ x, a = some x → x.block ≠ g := own_box h.row h.box (by decide)
theorem RW.live {w : World} {g : Nat} {H : Hv} {a : Option Addr} {c : Nat} (h : RW w g H a c) : ∀ k, HF g a k → k < w.heap.size := by
  rintro k (rfl | ⟨x, hx, rfl⟩)
  · exact h.lt
  · exact (own_low h.row x hx).2
theorem RW.three {w : World} {g : Nat} {H : Hv} {a : Option Addr} {c : Nat} (h : RW w g H a c) : w.cell? ⟨g, 0, none⟩ = some (.int .i64 (H.m : Int)) ∧ w.cell? ⟨g, 1, none⟩ = some (.int .i64 (H.s : Int)) ∧ w.cell? ⟨g, 2, none⟩ = some (.slice a H.L.length c) ∧ (∀ j, w.frozen? ⟨g, j, none⟩ = false) :=
  ⟨h.box.cell 0, h.box.cell 1, h.box.cell 2, h.box.frozen⟩
theorem RW.setS {w : World} {g : Nat} {H : Hv} {a : Option Addr} {c : Nat} (h : RW w g H a c) (s : Nat) : RW (w.setCell ⟨g, 1, none⟩ (.int .i64 (s : Int))) g { H with s := s } a c :=
  ⟨h.box.set 1 _, own_set h.row h.neA 1 _⟩
theorem RW.setL {w w' : World} {g : Nat} {H : Hv} {a a' : Option Addr} {c c' : Nat} {D : List Ta} (h : RW w g H a c) (hg : w'.heap[g]? = w.heap[g]?) (ho : w'.ownsRow 0 45 3 (.slice a' D.length c') D.length (taCells D)) :
    RW (w'.setCell ⟨g, 2, none⟩ (.slice a' D.length c')) g { H with L := D } a' c' :=
  ⟨Whole.set (show Whole w' g _ _ from hg.trans h.box) 2 _, own_set ho (own_box ho (show Whole w' g _ _ from hg.trans h.box) (by decide)) 2 _⟩
theorem RW.put {w : World} {g ga : Nat} {H : Hv} {c : Nat} (h : RW w g H (some ⟨ga, 0, none⟩) c) (k : Nat) (x : Ta) (hk : k < H.L.length) : RW (((w.setCell ⟨ga, k * 3, none⟩ (.int .i64 x.k)).setCell ⟨ga, k * 3 + 1, none⟩ (.int .i64 x.n)).setCell ⟨ga, k * 3 + 2, none⟩ (.int .i64 x.o)) g { H with L := H.L.set k x } (some ⟨ga, 0, none⟩) c := by
  have hg : ga ≠ g := h.neA _ rfl
  have hl : (H.L.set k x).length = H.L.length := by simp
  refine ⟨?_, ?_⟩
  · have := ((h.box.far ga (k * 3) (.int .i64 x.k) (Ne.symm hg)).far ga (k * 3 + 1) (.int .i64 x.n) (Ne.symm hg)).far ga (k * 3 + 2) (.int .i64 x.o) (Ne.symm hg)
    simp only [hl]
    exact this
  · have := ta_store3 h.row hk x
    simp only [hl]
    exact this
def RA (w : World) (g : Nat) (H : Hv) (S : Nat → Prop) : Prop := ∃ a c, RW w g H a c ∧ S = HF g a
theorem RA.live {w : World} {g : Nat} {H : Hv} {S : Nat → Prop} (h : RA w g H S) : ∀ k, S k → k < w.heap.size := by
  obtain ⟨a, c, h, rfl⟩ := h
  exact h.live
theorem RA.keep {w w' : World} {g : Nat} {H : Hv} {S : Nat → Prop} (h : RA w g H S) (hb : Below w.heap.size w w') : RA w' g H S := by
  obtain ⟨a, c, h, rfl⟩ := h
  exact ⟨a, c, h.keep hb, rfl⟩
theorem RA.mvs {w w' : World} {g : Nat} {H : Hv} {S T T' : Nat → Prop} (h : RA w g H S) (hm : Mvs w w' T T') (hd : ∀ k, S k → ¬ T k) : RA w' g H S := by
  obtain ⟨a, c, h, rfl⟩ := h
  have hl := h.live
  refine ⟨a, c, ⟨(hm.2.1 g (hl _ (.inl rfl)) (hd _ (.inl rfl))).trans h.box, ?_⟩, rfl⟩
  exact own_same h.row fun x hx => hm.2.1 _ (hl _ (.inr ⟨x, hx, rfl⟩)) (hd _ (.inr ⟨x, hx, rfl⟩))
def RvP (g : Nat) (a : Option Addr) (H' : Hv) (E : Value) (w : World) (e : Ending) (w' : World) : Prop := e = .returned E ∧ ∃ a' c', RW w' g H' a' c' ∧ Mvs w w' (HF g a) (HF g a')
def RvQ (g : Nat) (S : Nat → Prop) (H' : Hv) (E : Value) (w : World) (e : Ending) (w' : World) : Prop := e = .returned E ∧ ∃ S', RA w' g H' S' ∧ Mvs w w' S S'
theorem firstTo_one (L : List Ta) : firstTo L 1 = 0 := by
  have : lessR (L.getD 0 ta0) (L.getD 0 ta0) = false := by unfold lessR; simp
  show (if lessR (L.getD 0 ta0) (L.getD (firstTo L 0) ta0) = true then 0 else firstTo L 0) = 0
  split <;> rfl
theorem Whole.tri {w : World} {g : Nat} {t : TypeId} {a b c : Value} (h : Whole w g t #[a, b, c]) :
    (w.cell? ⟨g, 0, none⟩ = some a ∧ w.cell? ⟨g, 1, none⟩ = some b ∧ w.cell? ⟨g, 2, none⟩ = some c) ∧
    (w.frozen? ⟨g, 0, none⟩ = false ∧ w.frozen? ⟨g, 1, none⟩ = false ∧ w.frozen? ⟨g, 2, none⟩ = false) ∧ g < w.heap.size :=
  ⟨⟨h.cell 0, h.cell 1, h.cell 2⟩, ⟨h.frozen 0, h.frozen 1, h.frozen 2⟩, h.lt⟩
theorem st3w {w : World} {A : Nat} {t : TypeId} {a b c : Value} (h : Whole w A t #[a, b, c]) (x0 x1 x2 : Value) :
    Whole (((w.setCell ⟨A, 0, none⟩ x0).setCell ⟨A, 1, none⟩ x1).setCell ⟨A, 2, none⟩ x2) A t #[x0, x1, x2] := by
  have h3 := ((h.set 0 x0).set 1 x1).set 2 x2
  simpa using h3
theorem st3b {w w0 : World} {A : Nat} (hb : Below A w0 w) (x0 x1 x2 : Value) : Below A w0 (((w.setCell ⟨A, 0, none⟩ x0).setCell ⟨A, 1, none⟩ x1).setCell ⟨A, 2, none⟩ x2) :=
  ((hb.setCell (p := ⟨A, 0, none⟩) (Nat.le_refl _) x0).setCell (p := ⟨A, 1, none⟩) (Nat.le_refl _) x1).setCell (p := ⟨A, 2, none⟩) (Nat.le_refl _) x2
theorem res_hv (tmps : Array Value) (r : Nat) (c0 c1 c2 v : Value) (w : World) (h4 : tmps.getD 2 undef = .pointer (some ⟨r, 0, none⟩)) (h5 : tmps.getD 3 undef = v) (r0 : w.cell? ⟨r, 0, none⟩ = some c0) (r1 : w.cell? ⟨r, 1, none⟩ = some c1) (r2 : w.cell? ⟨r, 2, none⟩ = some c2) :
    (results Try.f11 tmps).run Try.prog w = .ok (.tuple #[.agg #[c0, c1, c2], v]) w := by
  rw [results_cell_tmp rfl, h4, h5]
  go_simp
set_option maxRecDepth 100000 in
theorem rnew_good (m : Nat) (w : World) (h0 : 1 ≤ m) (h1 : m ≤ 64) : Calls Try.prog 11 #[.int .i64 m] w fun e w' => e = .returned (.tuple #[.agg #[.int .i64 m, .int .i64 0, .slice none 0 0], .int .i64 0]) ∧ Below w.heap.size w w' := by
  have q1 : ¬ (m : Int) < 1 := by omega
  have q2 : ¬ 64 < (m : Int) := by omega
  have hal := balloc w (.cells #[.int .i64 m, .int .i64 0, .slice none 0 0] 30)
  have R1 := Whole.new w 30 #[.int .i64 m, .int .i64 0, .slice none 0 0]
  obtain ⟨⟨s0, s1, s2⟩, _, _⟩ := R1.tri
  go_enter Try.func11, Try.ntmps11
  go_wp2_with fail
  refine bodyPost_ret (res_hv _ _ _ _ _ _ _ rfl rfl s0 s1 s2) rfl ?_
  exact ⟨rfl, hal⟩
set_option maxRecDepth 100000 in
theorem rnew_bad (m : Int) (w : World) (h : ¬ (1 ≤ m ∧ m ≤ 64)) : Calls Try.prog 11 #[.int .i64 m] w fun e w' => e = .returned (.tuple #[.agg #[.int .i64 0, .int .i64 0, .slice none 0 0], .int .i64 1]) ∧ Below w.heap.size w w' := by
  have hal := balloc w (.cells #[.int .i64 0, .int .i64 0, .slice none 0 0] 30)
  have R1 := Whole.new w 30 #[.int .i64 0, .int .i64 0, .slice none 0 0]
  obtain ⟨⟨s0, s1, s2⟩, _, _⟩ := R1.tri
  rcases (show m < 1 ∨ (¬ m < 1 ∧ 64 < m) by omega) with h1 | ⟨h1, h2⟩
  all_goals
    go_enter Try.func11, Try.ntmps11
    go_wp2_with fail
    refine bodyPost_ret (res_hv _ _ _ _ _ _ _ rfl rfl s0 s1 s2) rfl ?_
    exact ⟨rfl, hal⟩
end Go.Proofs.Ythghnpopcnnidaa
