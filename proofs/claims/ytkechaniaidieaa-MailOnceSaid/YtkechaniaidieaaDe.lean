/- Rows of headgatelaw24.Deed as cells (my own words); opened. -/
import Derived.Test.YtkechaniaidieaaStOpen
import Derived.Test.YtkechaniaidieaaMlTwice
import Derived.ChangeArms
import Derived.ChangeShapes
import Derived.WideShapes
import Derived.Deep.Slices
namespace Go.Proofs.Ytkechaniaidieaa
open Go.RowKit Vm Go.ChangeShapes Go.WideShapes Go.Deep
set_option linter.unusedVariables false

structure De where
  k : Int
  n : Int
  d : Int
  f : Int
  T : List (List UInt8)
  a : Option Addr
  c : Nat
def de0 : De := ⟨0, 0, 0, 0, [], none, 0⟩
def deOf (x : De) : List Value := [.int .i64 x.k, .int .i64 x.n, .int .i64 x.d, .int .i64 x.f, .slice x.a x.T.length x.c]
def deCells (l : List De) : List Value := l.flatMap deOf
theorem deOf_len (r : De) : (deOf r).length = 5 := rfl
theorem deCells_length (l : List De) : (deCells l).length = l.length * 5 := recs_length deOf 5 deOf_len l
theorem deCells_append (a b : List De) : deCells (a ++ b) = deCells a ++ deCells b := by simp [deCells]
theorem deCells_snoc (l : List De) (r : De) : deCells (l ++ [r]) = deCells l ++ [.int .i64 r.k, .int .i64 r.n, .int .i64 r.d, .int .i64 r.f, .slice r.a r.T.length r.c] := by rw [deCells_append]; rfl
theorem deCells_one (l : List De) : ∀ v ∈ deCells l, v.oneCell' = true := recs_one deOf (fun r v hv => by simp [deOf] at hv; rcases hv with rfl | rfl | rfl | rfl | rfl <;> rfl) l
theorem deCells_at (l : List De) (j : Nat) (h : j < l.length) : (deCells l)[j * 5]? = some (.int .i64 (l.getD j de0).k) ∧ (deCells l)[j * 5 + 1]? = some (.int .i64 (l.getD j de0).n) ∧ (deCells l)[j * 5 + 2]? = some (.int .i64 (l.getD j de0).d) ∧ (deCells l)[j * 5 + 3]? = some (.int .i64 (l.getD j de0).f) ∧ (deCells l)[j * 5 + 4]? = some (.slice (l.getD j de0).a (l.getD j de0).T.length (l.getD j de0).c) := by
  have key := fun i hi => recs_at deOf 5 deOf_len l de0 j i h hi
  exact ⟨key 0 (by omega), key 1 (by omega), key 2 (by omega), key 3 (by omega), key 4 (by omega)⟩
theorem Sl.de {w : World} {B : Nat} {a : Option Addr} {l : List De} (h : Sl w B a (deCells l)) (h0 : 0 < l.length) :
    ∃ b off, a = some ⟨b, off, none⟩ ∧ b < B ∧ ∀ j, j < l.length → w.cell? ⟨b, off + j * 5, none⟩ = some (.int .i64 (l.getD j de0).k) ∧ w.cell? ⟨b, off + j * 5 + 1, none⟩ = some (.int .i64 (l.getD j de0).n) ∧ w.cell? ⟨b, off + j * 5 + 2, none⟩ = some (.int .i64 (l.getD j de0).d) ∧ w.cell? ⟨b, off + j * 5 + 3, none⟩ = some (.int .i64 (l.getD j de0).f) ∧ w.cell? ⟨b, off + j * 5 + 4, none⟩ = some (.slice (l.getD j de0).a (l.getD j de0).T.length (l.getD j de0).c) := by
  rcases h with h | ⟨b, off, e, hlt, hc⟩
  · have := congrArg List.length h
    rw [deCells_length, List.length_nil] at this
    omega
  · exact ⟨b, off, e, hlt, fun j hj => ⟨hc _ _ (deCells_at l j hj).1, hc _ _ (deCells_at l j hj).2.1, hc _ _ (deCells_at l j hj).2.2.1, hc _ _ (deCells_at l j hj).2.2.2.1, hc _ _ (deCells_at l j hj).2.2.2.2⟩⟩
theorem info_de : (Try.prog.info? 32).map (fun i => (i.zero, i.size, i.bytes)) = some (some (.agg #[.int .i64 0, .int .i64 0, .int .i64 0, .int .i64 0, .slice none 0 0]), 5, 56) := by kernel_rfl
theorem open_struct5 {H : Type} {enc : TypeId × Value → H} {P : Program} {w : World} {base : Nat} {spare : Nat → Bool} {held : Bool} {t : TypeId} {f0 f1 f2 f3 f4 : Field} {fuel : Nat} {c0 c1 c2 c3 c4 : Value} {x : DataW H × List MemPlace}
    (hs : P.underlying t = some (.struct #[f0, f1, f2, f3, f4])) (ho : f0.offset = 0 ∧ f1.offset = 1 ∧ f2.offset = 2 ∧ f3.offset = 3 ∧ f4.offset = 4)
    (k0 : P.cellsOf f0.type = 1) (k1 : P.cellsOf f1.type = 1) (k2 : P.cellsOf f2.type = 1) (k3 : P.cellsOf f3.type = 1) (k4 : P.cellsOf f4.type = 1)
    (hf : DataW.trod enc P w base spare held fuel t [c0, c1, c2, c3, c4] = some x) :
    ∃ y0 y1 y2 y3 y4 n, DataW.trod enc P w base spare held n f0.type [c0] = some y0 ∧ DataW.trod enc P w base spare held n f1.type [c1] = some y1 ∧ DataW.trod enc P w base spare held n f2.type [c2] = some y2 ∧ DataW.trod enc P w base spare held n f3.type [c3] = some y3 ∧
      DataW.trod enc P w base spare held n f4.type [c4] = some y4 := by
  obtain ⟨xs, n, _, hx, _, hlen, hg⟩ := DataW.trod_struct hs hf
  obtain ⟨o0, o1, o2, o3, o4⟩ := ho
  match xs, hlen with
  | [y0, y1, y2, y3, y4], _ =>
    exact ⟨y0, y1, y2, y3, y4, n, by simpa [o0, k0] using hg 0 f0 rfl, by simpa [o1, k1] using hg 1 f1 rfl, by simpa [o2, k2] using hg 2 f2 rfl, by simpa [o3, k3] using hg 3 f3 rfl, by simpa [o4, k4] using hg 4 f4 rfl⟩
section
variable {H : Type} {enc : TypeId × Value → H} {w : World} {base : Nat} {spare : Nat → Bool} {held : Bool}
theorem cells_de : Try.prog.cellsOf 32 = 5 := by kernel_rfl
theorem cells_di : Try.prog.cellsOf 3 = 1 := by kernel_rfl
theorem cells_dl : Try.prog.cellsOf 30 = 1 := by kernel_rfl
def DeI (w : World) (x : De) : Prop := (I64 x.k ∧ I64 x.n ∧ I64 x.d ∧ I64 x.f) ∧ Sl w w.heap.size x.a (stCells x.T) ∧ (x.a = none → x.c = 0) ∧ x.T.length ≤ x.c ∧ x.c ≤ maxLen
theorem open_de1 {fuel : Nat} {cs : List Value} {x : DataW H × List MemPlace} (hl : cs.length = 5) (h : DataW.trod enc Try.prog w base spare held fuel 32 cs = some x) :
    ∃ r : De, cs = deOf r ∧ DeI w r := by
  match cs, hl with
  | [c0, c1, c2, c3, c4], _ =>
    obtain ⟨y0, y1, y2, y3, y4, n, g0, g1, g2, g3, g4⟩ := open_struct5 Try.underlying32 ⟨rfl, rfl, rfl, rfl, rfl⟩ cells_di cells_di cells_di cells_di cells_dl h
    obtain ⟨n0, e0, _, w0⟩ := DataW.trod_int (k := .i64) Try.underlying3 g0
    obtain ⟨n1, e1, _, w1⟩ := DataW.trod_int (k := .i64) Try.underlying3 g1
    obtain ⟨n2, e2, _, w2⟩ := DataW.trod_int (k := .i64) Try.underlying3 g2
    obtain ⟨n3, e3, _, w3⟩ := DataW.trod_int (k := .i64) Try.underlying3 g3
    obtain ⟨a, m, c, l, e4, hl, hs, hr, hc⟩ := open_sts0 g4
    simp only [List.cons.injEq, and_true] at e0 e1 e2 e3 e4
    subst e0 e1 e2 e3 e4 hl
    exact ⟨⟨n0, n1, n2, n3, l, a, c⟩, rfl, ⟨bounds_i64 w0, bounds_i64 w1, bounds_i64 w2, bounds_i64 w3⟩, hs, hc⟩
theorem open_des0 {fuel : Nat} {cs : List Value} {x : DataW H × List MemPlace} (h : DataW.trod enc Try.prog w base spare held fuel 22 cs = some x) :
    ∃ (a : Option Addr) (n c : Nat) (l : List De), cs = [.slice a n c] ∧ l.length = n ∧ Sl w w.heap.size a (deCells l) ∧ (∀ r ∈ l, DeI w r) ∧ (a = none → c = 0) ∧ n ≤ c ∧ c ≤ maxLen := by
  rcases open_slice Try.underlying22 h with ⟨hcs, _⟩ | ⟨a, len, cap, m, n, D, Pl, hcs, hb, hl, hm, hmm, hx, hi⟩
  · exact ⟨none, 0, 0, [], hcs, rfl, .inl rfl, by simp, fun _ => rfl, Nat.le_refl _, Nat.zero_le _⟩
  · have hlm : len ≤ m := by rw [hmm]; split <;> omega
    have key : ∀ k, k ≤ len → ∃ l : List De, l.length = k ∧ (∀ j u, (deCells l)[j]? = some u → w.cell? (a.add j) = some u) ∧ ∀ r ∈ l, DeI w r := by
      intro k
      induction k with
      | zero => intro _; exact ⟨[], rfl, fun j u hu => by simp [deCells] at hu, by simp⟩
      | succ k ih =>
        intro hk
        obtain ⟨l, h1, h2, h3⟩ := ih (by omega)
        obtain ⟨cs', hc, ht⟩ := hi k (by omega)
        rw [cells_de] at hc
        obtain ⟨_, hcl, hat⟩ := World.cells?_some hc
        obtain ⟨r, hr, hri⟩ := open_de1 hcl ht
        refine ⟨l ++ [r], by simp [h1], fun j u hu => ?_, fun y hy => ?_⟩
        · rw [deCells_append] at hu
          by_cases hj : j < (deCells l).length
          · rw [List.getElem?_append_left hj] at hu; exact h2 j u hu
          · rw [List.getElem?_append_right (by omega)] at hu
            have hcl2 := deCells_length l
            have hj3 : j - (deCells l).length < 5 := by
              have := (List.getElem?_eq_some_iff.1 hu).1
              simpa [deCells, deOf] using this
            have := hat (j - (deCells l).length) hj3
            rw [hr, Go.Deep.add_add, show k * 5 + (j - (deCells l).length) = j from by omega] at this
            rw [this]
            simpa [deCells] using hu
        · rcases List.mem_append.1 hy with hy | hy
          · exact h3 y hy
          · rw [List.mem_singleton.1 hy]; exact hri
    obtain ⟨l, h1, h2, h3⟩ := key len (Nat.le_refl _)
    refine ⟨some a, len, cap, l, hcs, h1, ?_, h3, (fun h => by cases h), by omega, by omega⟩
    by_cases h0 : len = 0
    · have : l = [] := List.eq_nil_of_length_eq_zero (by omega)
      rw [this]; exact .inl rfl
    · obtain ⟨b, off, spot⟩ := a
      have hl0 : 0 < l.length := by omega
      have hc0 := h2 0 _ (by have := (deCells_at l 0 hl0).1; simpa using this)
      have hspot : spot = none := by simpa [Addr.add] using World.cell?_spot hc0
      subst hspot
      refine .inr ⟨b, off, rfl, cell_lt hc0, fun j u hu => ?_⟩
      have := h2 j u hu
      rwa [add_at] at this
set_option maxRecDepth 100000 in
theorem open_des {r : Reach} {b0 : Nat} {v : Value} {d : DataW H} {p : List MemPlace}
    (hv : Value.okWide Try.prog w r b0 22 v) (h : DataW.Trod enc Try.prog w base spare held 22 v d p) :
    ∃ (l : List De) (a : Option Addr) (c : Nat), v = .slice a l.length c ∧ Sl w w.heap.size a (deCells l) ∧ (∀ r ∈ l, DeI w r) ∧ (a = none → c = 0) ∧ l.length ≤ c ∧ c ≤ maxLen := by
  obtain ⟨a0, len0, cap0, rfl⟩ := okWide_slice Try.underlying22 hv
  obtain ⟨fuel, hf⟩ := h
  obtain ⟨a, n, c, l, hcs, hl, hs, hi, hk⟩ := open_des0 hf
  simp [Value.cells] at hcs
  obtain ⟨rfl, rfl, rfl⟩ := hcs
  subst hl
  exact ⟨l, a0, cap0, rfl, hs, hi, hk⟩
end
end Go.Proofs.Ytkechaniaidieaa
