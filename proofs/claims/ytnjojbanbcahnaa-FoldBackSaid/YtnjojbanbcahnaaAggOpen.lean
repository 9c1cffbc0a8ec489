/- A value of api.Agg, opened. -/
import Derived.Test.YtnjojbanbcahnaaFoldSmall
import Derived.Test.YtnjojbanbcahnaaAggEq
import Derived.ChangeArms
import Derived.ChangeShapes
import Derived.Laws.IdiomArrays
import Derived.WideShapes
namespace Go.Proofs.Ytnjojbanbcahnaa
open Go.RowKit Vm Fo Go.ChangeShapes Go.WideShapes
set_option linter.unusedVariables false

theorem open_struct7 {H : Type} {enc : TypeId × Value → H} {P : Program} {w : World} {base : Nat} {spare : Nat → Bool} {held : Bool} {t : TypeId} {f0 f1 f2 f3 f4 f5 f6 : Field} {fuel : Nat} {c0 c1 c2 c3 c4 c5 c6 c7 c8 c9 : Value} {x : DataW H × List MemPlace}
    (hs : P.underlying t = some (.struct #[f0, f1, f2, f3, f4, f5, f6])) (ho : (f0.offset = 0 ∧ f1.offset = 1 ∧ f2.offset = 2 ∧ f3.offset = 3 ∧ f4.offset = 4 ∧ f5.offset = 8 ∧ f6.offset = 9))
    (k0 : P.cellsOf f0.type = 1) (k1 : P.cellsOf f1.type = 1) (k2 : P.cellsOf f2.type = 1) (k3 : P.cellsOf f3.type = 1) (k4 : P.cellsOf f4.type = 4) (k5 : P.cellsOf f5.type = 1) (k6 : P.cellsOf f6.type = 1)
    (hf : DataW.trod enc P w base spare held fuel t [c0, c1, c2, c3, c4, c5, c6, c7, c8, c9] = some x) :
    ∃ y0 y1 y2 y3 y4 y5 y6 n, DataW.trod enc P w base spare held n f0.type [c0] = some y0 ∧ DataW.trod enc P w base spare held n f1.type [c1] = some y1 ∧ DataW.trod enc P w base spare held n f2.type [c2] = some y2 ∧ DataW.trod enc P w base spare held n f3.type [c3] = some y3 ∧
      DataW.trod enc P w base spare held n f4.type [c4, c5, c6, c7] = some y4 ∧ DataW.trod enc P w base spare held n f5.type [c8] = some y5 ∧ DataW.trod enc P w base spare held n f6.type [c9] = some y6 := by
  obtain ⟨xs, n, _, hx, _, hlen, hg⟩ := DataW.trod_struct hs hf
  obtain ⟨o0, o1, o2, o3, o4, o5, o6⟩ := ho
  match xs, hlen with
  | [y0, y1, y2, y3, y4, y5, y6], _ =>
    exact ⟨y0, y1, y2, y3, y4, y5, y6, n, by simpa [o0, k0] using hg 0 f0 rfl, by simpa [o1, k1] using hg 1 f1 rfl, by simpa [o2, k2] using hg 2 f2 rfl, by simpa [o3, k3] using hg 3 f3 rfl, by simpa [o4, k4] using hg 4 f4 rfl, by simpa [o5, k5] using hg 5 f5 rfl, by simpa [o6, k6] using hg 6 f6 rfl⟩

set_option maxRecDepth 100000 in
theorem open_ag {H : Type} {enc : TypeId × Value → H} {w : World} {base : Nat} {spare : Nat → Bool} {held : Bool} {r : Reach} {b : Nat} {v : Value} {d : DataW H} {p : List MemPlace}
    (hv : Value.okWide Try.prog w r b 53 v) (h : DataW.Trod enc Try.prog w base spare held 53 v d p) : ∃ a : Ag, v = av a ∧ AgWf a := by
  obtain ⟨cs, rfl, hsz⟩ := okWide_struct Try.underlying53 hv
  obtain ⟨l⟩ := cs
  have hC : Try.prog.cellsOf 53 = 10 := by kernel_rfl
  have k1 : Try.prog.cellsOf 3 = 1 := by kernel_rfl
  have k4 : Try.prog.cellsOf 51 = 4 := by kernel_rfl
  match l, hsz.trans hC with
  | [c0, c1, c2, c3, c4, c5, c6, c7, c8, c9], _ =>
    obtain ⟨fuel, hf⟩ := h
    obtain ⟨y0, y1, y2, y3, y4, y5, y6, n, g0, g1, g2, g3, g4, g5, g6⟩ := open_struct7 Try.underlying53 ⟨rfl, rfl, rfl, rfl, rfl, rfl, rfl⟩ k1 k1 k1 k1 k4 k1 k1 hf
    obtain ⟨z0, z1, z2, z3, m, _, f0, f1, f2, f3⟩ := trod_array4 Try.underlying51 k1 g4
    obtain ⟨n0, e0, _, w0⟩ := DataW.trod_int (k := .i64) Try.underlying3 g0
    obtain ⟨n1, e1, _, w1⟩ := DataW.trod_int (k := .i64) Try.underlying3 g1
    obtain ⟨n2, e2, _, w2⟩ := DataW.trod_int (k := .i64) Try.underlying3 g2
    obtain ⟨n3, e3, _, w3⟩ := DataW.trod_int (k := .i64) Try.underlying3 g3
    obtain ⟨m0, i0, _, u0⟩ := DataW.trod_int (k := .i64) Try.underlying3 f0
    obtain ⟨m1, i1, _, u1⟩ := DataW.trod_int (k := .i64) Try.underlying3 f1
    obtain ⟨m2, i2, _, u2⟩ := DataW.trod_int (k := .i64) Try.underlying3 f2
    obtain ⟨m3, i3, _, u3⟩ := DataW.trod_int (k := .i64) Try.underlying3 f3
    obtain ⟨n5, e5, _, w5⟩ := DataW.trod_int (k := .i64) Try.underlying3 g5
    obtain ⟨n6, e6, _, w6⟩ := DataW.trod_int (k := .i64) Try.underlying3 g6
    simp only [List.cons.injEq, and_true] at e0 e1 e2 e3 e5 e6 i0 i1 i2 i3
    subst e0 e1 e2 e3 e5 e6 i0 i1 i2 i3
    exact ⟨⟨n0, n1, n2, n3, m0, m1, m2, m3, n5, n6⟩, rfl, ⟨wf_i64 w0, wf_i64 w1, wf_i64 w2, wf_i64 w3, wf_i64 u0, wf_i64 u1, wf_i64 u2, wf_i64 u3, wf_i64 w5, wf_i64 w6⟩⟩
end Go.Proofs.Ytnjojbanbcahnaa
