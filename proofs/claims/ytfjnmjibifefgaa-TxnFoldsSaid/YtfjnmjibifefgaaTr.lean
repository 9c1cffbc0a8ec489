/- Rows of headgate/api.Trans as cells. -/
import Derived.Test.YtfjnmjibifefgaaRecs
import Derived.Test.YtfjnmjibifefgaaRows
import Derived.IntWalk
import Derived.Lib.Hide
import Derived.Laws.AppendOwnNone
import Derived.OwnWalk
import Derived.WalkKit
namespace Go.Proofs.Ytfjnmjibifefgaa
open Go.RowKit Vm
set_option linter.unusedVariables false

structure Tr where
  p : Int
  e : Int
  s : Int
  m : Int
  l : Int
def tr0 : Tr := ⟨0, 0, 0, 0, 0⟩
def trOf (r : Tr) : List Value := [.int .i64 r.p, .int .i64 r.e, .int .i64 r.s, .int .i64 r.m, .int .i64 r.l]
def trCells (l : List Tr) : List Value := l.flatMap trOf
/-- Its numbers are int64s. -/
def TrI (r : Tr) : Prop := I64 r.p ∧ I64 r.e ∧ I64 r.s ∧ I64 r.m ∧ I64 r.l
theorem trOf_len (r : Tr) : (trOf r).length = 5 := rfl
theorem trCells_length (l : List Tr) : (trCells l).length = l.length * 5 := recs_length trOf 5 trOf_len l
theorem trCells_append (a b : List Tr) : trCells (a ++ b) = trCells a ++ trCells b := by simp [trCells]
theorem trCells_snoc (l : List Tr) (r : Tr) : trCells (l ++ [r]) = trCells l ++ [.int .i64 r.p, .int .i64 r.e, .int .i64 r.s, .int .i64 r.m, .int .i64 r.l] := by rw [trCells_append]; rfl
theorem trCells_take (l : List Tr) (i : Nat) : trCells (l.take i) = (trCells l).take (i * 5) := recs_take trOf 5 trOf_len l i
theorem trCells_drop (l : List Tr) (i : Nat) : trCells (l.drop i) = (trCells l).drop (i * 5) := recs_drop trOf 5 trOf_len l i
theorem trCells_one (l : List Tr) : ∀ v ∈ trCells l, v.oneCell' = true := recs_one trOf (fun r v hv => by simp [trOf] at hv; rcases hv with rfl | rfl | rfl | rfl | rfl <;> rfl) l
theorem trCells_at (l : List Tr) (j : Nat) (h : j < l.length) : (trCells l)[j * 5]? = some (.int .i64 (l.getD j tr0).p) ∧ (trCells l)[j * 5 + 1]? = some (.int .i64 (l.getD j tr0).e) ∧ (trCells l)[j * 5 + 2]? = some (.int .i64 (l.getD j tr0).s) ∧ (trCells l)[j * 5 + 3]? = some (.int .i64 (l.getD j tr0).m) ∧ (trCells l)[j * 5 + 4]? = some (.int .i64 (l.getD j tr0).l) := by
  have key := fun i hi => recs_at trOf 5 trOf_len l tr0 j i h hi
  exact ⟨key 0 (by omega), key 1 (by omega), key 2 (by omega), key 3 (by omega), key 4 (by omega)⟩
theorem Sl.tr {w : World} {B : Nat} {a : Option Addr} {l : List Tr} (h : Sl w B a (trCells l)) (h0 : 0 < l.length) :
    ∃ b off, a = some ⟨b, off, none⟩ ∧ b < B ∧ ∀ j, j < l.length → w.cell? ⟨b, off + j * 5, none⟩ = some (.int .i64 (l.getD j tr0).p) ∧ w.cell? ⟨b, off + j * 5 + 1, none⟩ = some (.int .i64 (l.getD j tr0).e) ∧ w.cell? ⟨b, off + j * 5 + 2, none⟩ = some (.int .i64 (l.getD j tr0).s) ∧ w.cell? ⟨b, off + j * 5 + 3, none⟩ = some (.int .i64 (l.getD j tr0).m) ∧ w.cell? ⟨b, off + j * 5 + 4, none⟩ = some (.int .i64 (l.getD j tr0).l) := by
  rcases h with h | ⟨b, off, e, hlt, hc⟩
  · have := congrArg List.length h
    rw [trCells_length, List.length_nil] at this
    omega
  · exact ⟨b, off, e, hlt, fun j hj => ⟨hc _ _ (trCells_at l j hj).1, hc _ _ (trCells_at l j hj).2.1, hc _ _ (trCells_at l j hj).2.2.1, hc _ _ (trCells_at l j hj).2.2.2.1, hc _ _ (trCells_at l j hj).2.2.2.2⟩⟩
theorem trCells_set0 (l : List Tr) (i : Nat) (v : Int) (hi : i < l.length) : (trCells l).set (i * 5 + 0) (.int .i64 v) = trCells (l.set i { l.getD i tr0 with p := v }) := recs_set trOf 5 trOf_len l _ _ i 0 tr0 hi (by omega) rfl
theorem trCells_set1 (l : List Tr) (i : Nat) (v : Int) (hi : i < l.length) : (trCells l).set (i * 5 + 1) (.int .i64 v) = trCells (l.set i { l.getD i tr0 with e := v }) := recs_set trOf 5 trOf_len l _ _ i 1 tr0 hi (by omega) rfl
theorem trCells_set2 (l : List Tr) (i : Nat) (v : Int) (hi : i < l.length) : (trCells l).set (i * 5 + 2) (.int .i64 v) = trCells (l.set i { l.getD i tr0 with s := v }) := recs_set trOf 5 trOf_len l _ _ i 2 tr0 hi (by omega) rfl
theorem trCells_set3 (l : List Tr) (i : Nat) (v : Int) (hi : i < l.length) : (trCells l).set (i * 5 + 3) (.int .i64 v) = trCells (l.set i { l.getD i tr0 with m := v }) := recs_set trOf 5 trOf_len l _ _ i 3 tr0 hi (by omega) rfl
theorem trCells_set4 (l : List Tr) (i : Nat) (v : Int) (hi : i < l.length) : (trCells l).set (i * 5 + 4) (.int .i64 v) = trCells (l.set i { l.getD i tr0 with l := v }) := recs_set trOf 5 trOf_len l _ _ i 4 tr0 hi (by omega) rfl
theorem info_tr : (Try.prog.info? 52).map (fun i => (i.zero, i.size, i.bytes)) = some (some (.agg #[.int .i64 0, .int .i64 0, .int .i64 0, .int .i64 0, .int .i64 0]), 5, 40) := by kernel_rfl
theorem tr_nil_of {w : World} {B : Nat} {l : List Tr} (h : Sl w B none (trCells l)) : l = [] := by
  rcases h with h | ⟨b, off, e, _⟩
  · have := congrArg List.length h
    rw [trCells_length, List.length_nil] at this
    exact List.eq_nil_of_length_eq_zero (by omega)
  · cases e
theorem tr_sub {w : World} {B b1 o1 : Nat} {l : List Tr} (h : Sl w B (some ⟨b1, o1, none⟩) (trCells l)) (k : Nat) : Sl w B (some ⟨b1, o1 + k * 5, none⟩) (trCells (l.drop k)) := by
  rw [trCells_drop]
  rcases h with h | ⟨b2, o2, e, hlt, hc⟩
  · rw [h]; exact .inl (by simp)
  · injection e with e
    injection e with e1 e2 _
    subst e1 e2
    refine .inr ⟨_, _, rfl, hlt, fun j u hu => ?_⟩
    rw [List.getElem?_drop] at hu
    have := hc _ _ hu
    rw [← this]; congr 2; omega
theorem tr_pre {w : World} {B : Nat} {a : Option Addr} {l : List Tr} (h : Sl w B a (trCells l)) (k : Nat) : Sl w B a (trCells (l.take k)) := by
  rw [trCells_take]
  rcases h with h | ⟨b, off, e, hlt, hc⟩
  · exact .inl (by rw [h]; simp)
  · refine .inr ⟨b, off, e, hlt, fun j u hu => hc j u ?_⟩
    rw [List.getElem?_take] at hu
    split at hu
    · exact hu
    · cases hu
end Go.Proofs.Ytfjnmjibifefgaa
