/- Rows of headgate/headgatelaw10.Deed as cells. -/
import Derived.Test.YtocmhmfaehnliaaRecs
import Derived.Test.YtocmhmfaehnliaaRows
import Derived.IntWalk
import Derived.Lib.Hide
import Derived.Laws.AppendOwnNone
import Derived.OwnWalk
import Derived.WalkKit
namespace Go.Proofs.Ytocmhmfaehnliaa
open Go.RowKit Vm
set_option linter.unusedVariables false

structure Gd where
  k : Int
  a : Int
  b : Int
  p : Int
  n : Bool
def gd0 : Gd := ⟨0, 0, 0, 0, false⟩
def gdOf (r : Gd) : List Value := [.int .i64 r.k, .int .i64 r.a, .int .i64 r.b, .int .i64 r.p, .bool r.n]
def gdCells (l : List Gd) : List Value := l.flatMap gdOf
/-- Its numbers are int64s. -/
def GdI (r : Gd) : Prop := I64 r.k ∧ I64 r.a ∧ I64 r.b ∧ I64 r.p ∧ True
theorem gdOf_len (r : Gd) : (gdOf r).length = 5 := rfl
theorem gdCells_length (l : List Gd) : (gdCells l).length = l.length * 5 := recs_length gdOf 5 gdOf_len l
theorem gdCells_append (a b : List Gd) : gdCells (a ++ b) = gdCells a ++ gdCells b := by simp [gdCells]
theorem gdCells_snoc (l : List Gd) (r : Gd) : gdCells (l ++ [r]) = gdCells l ++ [.int .i64 r.k, .int .i64 r.a, .int .i64 r.b, .int .i64 r.p, .bool r.n] := by rw [gdCells_append]; rfl
theorem gdCells_take (l : List Gd) (i : Nat) : gdCells (l.take i) = (gdCells l).take (i * 5) := recs_take gdOf 5 gdOf_len l i
theorem gdCells_drop (l : List Gd) (i : Nat) : gdCells (l.drop i) = (gdCells l).drop (i * 5) := recs_drop gdOf 5 gdOf_len l i
theorem gdCells_one (l : List Gd) : ∀ v ∈ gdCells l, v.oneCell' = true := recs_one gdOf (fun r v hv => by simp [gdOf] at hv; rcases hv with rfl | rfl | rfl | rfl | rfl <;> rfl) l
theorem gdCells_at (l : List Gd) (j : Nat) (h : j < l.length) : (gdCells l)[j * 5]? = some (.int .i64 (l.getD j gd0).k) ∧ (gdCells l)[j * 5 + 1]? = some (.int .i64 (l.getD j gd0).a) ∧ (gdCells l)[j * 5 + 2]? = some (.int .i64 (l.getD j gd0).b) ∧ (gdCells l)[j * 5 + 3]? = some (.int .i64 (l.getD j gd0).p) ∧ (gdCells l)[j * 5 + 4]? = some (.bool (l.getD j gd0).n) := by
  have key := fun i hi => recs_at gdOf 5 gdOf_len l gd0 j i h hi
  exact ⟨key 0 (by omega), key 1 (by omega), key 2 (by omega), key 3 (by omega), key 4 (by omega)⟩
theorem Sl.gd {w : World} {B : Nat} {a : Option Addr} {l : List Gd} (h : Sl w B a (gdCells l)) (h0 : 0 < l.length) :
    ∃ b off, a = some ⟨b, off, none⟩ ∧ b < B ∧ ∀ j, j < l.length → w.cell? ⟨b, off + j * 5, none⟩ = some (.int .i64 (l.getD j gd0).k) ∧ w.cell? ⟨b, off + j * 5 + 1, none⟩ = some (.int .i64 (l.getD j gd0).a) ∧ w.cell? ⟨b, off + j * 5 + 2, none⟩ = some (.int .i64 (l.getD j gd0).b) ∧ w.cell? ⟨b, off + j * 5 + 3, none⟩ = some (.int .i64 (l.getD j gd0).p) ∧ w.cell? ⟨b, off + j * 5 + 4, none⟩ = some (.bool (l.getD j gd0).n) := by
  rcases h with h | ⟨b, off, e, hlt, hc⟩
  · have := congrArg List.length h
    rw [gdCells_length, List.length_nil] at this
    omega
  · exact ⟨b, off, e, hlt, fun j hj => ⟨hc _ _ (gdCells_at l j hj).1, hc _ _ (gdCells_at l j hj).2.1, hc _ _ (gdCells_at l j hj).2.2.1, hc _ _ (gdCells_at l j hj).2.2.2.1, hc _ _ (gdCells_at l j hj).2.2.2.2⟩⟩
theorem gdCells_set0 (l : List Gd) (i : Nat) (v : Int) (hi : i < l.length) : (gdCells l).set (i * 5 + 0) (.int .i64 v) = gdCells (l.set i { l.getD i gd0 with k := v }) := recs_set gdOf 5 gdOf_len l _ _ i 0 gd0 hi (by omega) rfl
theorem gdCells_set1 (l : List Gd) (i : Nat) (v : Int) (hi : i < l.length) : (gdCells l).set (i * 5 + 1) (.int .i64 v) = gdCells (l.set i { l.getD i gd0 with a := v }) := recs_set gdOf 5 gdOf_len l _ _ i 1 gd0 hi (by omega) rfl
theorem gdCells_set2 (l : List Gd) (i : Nat) (v : Int) (hi : i < l.length) : (gdCells l).set (i * 5 + 2) (.int .i64 v) = gdCells (l.set i { l.getD i gd0 with b := v }) := recs_set gdOf 5 gdOf_len l _ _ i 2 gd0 hi (by omega) rfl
theorem gdCells_set3 (l : List Gd) (i : Nat) (v : Int) (hi : i < l.length) : (gdCells l).set (i * 5 + 3) (.int .i64 v) = gdCells (l.set i { l.getD i gd0 with p := v }) := recs_set gdOf 5 gdOf_len l _ _ i 3 gd0 hi (by omega) rfl
theorem gdCells_set4 (l : List Gd) (i : Nat) (v : Bool) (hi : i < l.length) : (gdCells l).set (i * 5 + 4) (.bool v) = gdCells (l.set i { l.getD i gd0 with n := v }) := recs_set gdOf 5 gdOf_len l _ _ i 4 gd0 hi (by omega) rfl
theorem info_gd : (Try.prog.info? 36).map (fun i => (i.zero, i.size, i.bytes)) = some (some (.agg #[.int .i64 0, .int .i64 0, .int .i64 0, .int .i64 0, .bool false]), 5, 40) := by kernel_rfl
theorem gd_nil_of {w : World} {B : Nat} {l : List Gd} (h : Sl w B none (gdCells l)) : l = [] := by
  rcases h with h | ⟨b, off, e, _⟩
  · have := congrArg List.length h
    rw [gdCells_length, List.length_nil] at this
    exact List.eq_nil_of_length_eq_zero (by omega)
  · cases e
theorem gd_sub {w : World} {B b1 o1 : Nat} {l : List Gd} (h : Sl w B (some ⟨b1, o1, none⟩) (gdCells l)) (k : Nat) : Sl w B (some ⟨b1, o1 + k * 5, none⟩) (gdCells (l.drop k)) := by
  rw [gdCells_drop]
  rcases h with h | ⟨b2, o2, e, hlt, hc⟩
  · rw [h]; exact .inl (by simp)
  · injection e with e
    injection e with e1 e2 _
    subst e1 e2
    refine .inr ⟨_, _, rfl, hlt, fun j u hu => ?_⟩
    rw [List.getElem?_drop] at hu
    have := hc _ _ hu
    rw [← this]; congr 2; omega
theorem gd_pre {w : World} {B : Nat} {a : Option Addr} {l : List Gd} (h : Sl w B a (gdCells l)) (k : Nat) : Sl w B a (gdCells (l.take k)) := by
  rw [gdCells_take]
  rcases h with h | ⟨b, off, e, hlt, hc⟩
  · exact .inl (by rw [h]; simp)
  · refine .inr ⟨b, off, e, hlt, fun j u hu => hc j u ?_⟩
    rw [List.getElem?_take] at hu
    split at hu
    · exact hu
    · cases hu
end Go.Proofs.Ytocmhmfaehnliaa
