/- A map of counts; what keeping does to the owners. -/
import Derived.Test.YtafibgekikjlhaaAsRange
import Derived.Maps.Own
import Derived.Maps.Views
namespace Go.Proofs.Ytafibgekikjlhaa
open Go.RowKit Vm As
set_option linter.unusedVariables false
set_option linter.unusedSimpArgs false

set_option maxRecDepth 100000 in
theorem lawI : Maps.Keyed Try.prog 3 := Maps.int_keyed Try.underlying3
set_option maxRecDepth 100000 in
theorem zeroI (w : World) : (zeroValue 3).run Try.prog w = .ok (.int .i64 0) w := by kernel_rfl
/-- Block r is a map of n entries at most that tells F x for each x above 0. -/
def CntI (w : World) (r n : Nat) (F : Int → Nat) : Prop := ∃ D : DataW Unit, w.ownsMap Try.prog 3 (plainElem Try.prog 3) r n D ∧ Maps.IsMap D ∧ ∀ x, 0 < x → D.atKey (.int .i64 x) (.lit (.int .i64 0)) = .lit (.int .i64 (F x))
set_option maxRecDepth 100000 in
theorem CntI.look {w : World} {r n : Nat} {F : Int → Nat} (h : CntI w r n F) {x : Int} (hx : 0 < x) (hw : (Lit.int .i64 x).wf = true) : (Instr.lookup 70 (.map (some r)) (.int .i64 x) false).run Try.prog w = .ok (.int .i64 (F x : Nat)) w := by
  obtain ⟨D, hm, _, hf⟩ := h
  obtain ⟨c, hr, hat, _⟩ := hm.lookup_int lawI Try.underlying70 Try.underlying3 (zeroI w) (Maps.keyOf_int_mk Try.underlying3 hw)
  rw [hf x hx] at hat
  injection hat with hat
  injection hat with _ hat
  rw [hr, hat]
theorem CntI.lt {w : World} {r n : Nat} {F : Int → Nat} (h : CntI w r n F) : r < w.heap.size := by
  obtain ⟨D, hm, _, _⟩ := h; exact hm.lt
theorem CntI.block {w w' : World} {r n : Nat} {F : Int → Nat} (h : CntI w r n F) (hb : w'.heap[r]? = w.heap[r]?) : CntI w' r n F := by
  obtain ⟨D, ⟨es, clock, hbk, F2, hs, hD⟩, h2, h3⟩ := h
  exact ⟨D, ⟨es, clock, hb.trans hbk, F2, hs, hD⟩, h2, h3⟩
theorem CntI.below {w w' : World} {r n : Nat} {F : Int → Nat} (h : CntI w r n F) (hb : Below w.heap.size w w') : CntI w' r n F := h.block (hb.block r h.lt)
theorem CntI.far {w : World} {r n g j : Nat} {F : Int → Nat} (h : CntI w r n F) (hne : r ≠ g) (u : Value) : CntI (w.setCell ⟨g, j, none⟩ u) r n F := h.block (Below.heap_setCell w ⟨g, j, none⟩ u r hne)
theorem CntI.made (w : World) (F : Int → Nat) (hF : ∀ x, 0 < x → F x = 0) : CntI (w.alloc (.map #[] 0)) w.heap.size 0 F :=
  ⟨_, World.ownsMap_made w _ _ _, Maps.isMap_empty, fun x hx => by rw [hF x hx]; rfl⟩
theorem CntI.mono {w : World} {r n n' : Nat} {F : Int → Nat} (h : CntI w r n F) (hn : n ≤ n') : CntI w r n' F := by
  obtain ⟨D, hm, h2, h3⟩ := h
  exact ⟨D, hm.mono hn, h2, h3⟩
theorem CntI.same {w : World} {r n : Nat} {F G : Int → Nat} (h : CntI w r n F) (hG : ∀ x, 0 < x → F x = G x) : CntI w r n G := by
  obtain ⟨D, hm, h2, h3⟩ := h
  exact ⟨D, hm, h2, fun x hx => by rw [h3 x hx, hG x hx]⟩
/-- What is put reads so. -/
theorem cntI_put {w : World} {r n : Nat} {F G : Int → Nat} {D : DataW Unit} {x : Int} {c : Nat} (hD : Maps.IsMap D) (hf : ∀ y, 0 < y → D.atKey (.int .i64 y) (.lit (.int .i64 0)) = .lit (.int .i64 (F y))) (h : w.ownsMap Try.prog 3 (plainElem Try.prog 3) r n (D.put (.int .i64 x) (.lit (.int .i64 ((c : Nat) : Int)))))
    (hx : G x = c) (ho : ∀ y, 0 < y → y ≠ x → G y = F y) : CntI w r n G := by
  refine ⟨_, h, hD.put _ _, fun y hy => ?_⟩
  by_cases hyx : y = x
  · subst hyx
    rw [Maps.atKey_put_same (k := .int .i64 y) hD trivial, hx]
  · rw [Maps.atKey_put_other (by intro e; injection e with _ e; exact hyx e), hf y hy, ho y hy hyx]
theorem keepTo_zero (parts : Nat) (m old : List Int) : ∀ i p, i ≤ p → (keepTo parts m old i).getD p 0 = 0 := by
  intro i
  induction i with
  | zero => intro p _; simp only [keepTo, List.getD, List.getElem?_replicate]; split <;> rfl
  | succ i ih =>
    intro p hp
    rw [keepTo]
    unfold step1
    split
    · rw [show ((keepTo parts m old i).set i (old.getD i 0)).getD p 0 = (keepTo parts m old i).getD p 0 from by simp [List.getD, List.getElem?_set, show i ≠ p by omega]]
      exact ih p (by omega)
    · exact ih p (by omega)
theorem cnt_zero (parts : Nat) (x : Int) (hx : 0 < x) : cnt (List.replicate parts 0) x = 0 := by
  unfold cnt
  rw [List.count_eq_zero]
  intro h
  have := List.eq_of_mem_replicate h
  omega
theorem nat_wf {c : Nat} (h : c ≤ 1000) : (Lit.int .i64 (c : Int)).wf = true := by
  simp only [Lit.wf, Bool.and_eq_true, decide_eq_true_eq]
  exact ⟨by show (-9223372036854775808 : Int) ≤ _; omega, by show _ ≤ (9223372036854775807 : Int); omega⟩
theorem nat_wf1 {c : Nat} (h : c ≤ 999) : (Lit.int .i64 ((c : Int) + 1)).wf = true := by
  have := nat_wf (c := c + 1) (by omega)
  rwa [show ((c + 1 : Nat) : Int) = (c : Int) + 1 from by omega] at this
theorem Sl.grown {w w' : World} {B r : Nat} {a : Option Addr} {xs : List Value} (h : Sl w B a xs) (hg : w.grownBy w' (some r)) (hr : ∀ x, a = some x → x.block ≠ r) (hB : B ≤ w.heap.size) : Sl w' B a xs := by
  rcases h with h | ⟨b, off, e, hlt, hc⟩
  · exact .inl h
  · refine .inr ⟨b, off, e, hlt, fun j u hu => ?_⟩
    have hbk := hg.block b (by omega) (by have := hr _ e; intro hh; injection hh with hh; exact this hh)
    rw [← hc j u hu]
    unfold World.cell?
    rw [hbk]
/-- Members, in order, above 0, that an int holds. -/
def Mem (m : List Int) : Prop := m.Pairwise (· < ·) ∧ (∀ x ∈ m, 0 < x) ∧ ∀ x ∈ m, (Lit.int .i64 x).wf = true
theorem mem_of {l m : List Int} (h : MemIs l m) (hl : ∀ x ∈ l, (Lit.int .i64 x).wf = true) : Mem m := ⟨h.1, fun x hx => ((h.2 x).1 hx).2, fun x hx => hl x ((h.2 x).1 hx).1⟩
end Go.Proofs.Ytafibgekikjlhaa
