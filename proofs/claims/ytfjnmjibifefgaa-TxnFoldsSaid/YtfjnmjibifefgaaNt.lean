/- Rows of headgate/api.Note as cells. -/
import Derived.Test.YtfjnmjibifefgaaRecs
import Derived.Test.YtfjnmjibifefgaaRows
import Derived.IntWalk
import Derived.Lib.Hide
import Derived.Laws.AppendOwnNone
import Derived.OwnWalk
import Derived.WalkKit
namespace Go.Proofs.Ytfjnmjibifefgaa
open Go.RowKit Vm
set_option linter.unusedVariables false

structure Nt where
  k : Int
  p : Int
  m : Int
def nt0 : Nt := ⟨0, 0, 0⟩
def ntOf (r : Nt) : List Value := [.int .i64 r.k, .int .i64 r.p, .int .i64 r.m]
def ntCells (l : List Nt) : List Value := l.flatMap ntOf
/-- Its numbers are int64s. -/
def NtI (r : Nt) : Prop := I64 r.k ∧ I64 r.p ∧ I64 r.m
theorem ntOf_len (r : Nt) : (ntOf r).length = 3 := rfl
theorem ntCells_length (l : List Nt) : (ntCells l).length = l.length * 3 := recs_length ntOf 3 ntOf_len l
theorem ntCells_append (a b : List Nt) : ntCells (a ++ b) = ntCells a ++ ntCells b := by simp [ntCells]
theorem ntCells_snoc (l : List Nt) (r : Nt) : ntCells (l ++ [r]) = ntCells l ++ [.int .i64 r.k, .int .i64 r.p, .int .i64 r.m] := by rw [ntCells_append]; rfl
theorem ntCells_take (l : List Nt) (i : Nat) : ntCells (l.take i) = (ntCells l).take (i * 3) := recs_take ntOf 3 ntOf_len l i
theorem ntCells_drop (l : List Nt) (i : Nat) : ntCells (l.drop i) = (ntCells l).drop (i * 3) := recs_drop ntOf 3 ntOf_len l i
theorem ntCells_one (l : List Nt) : ∀ v ∈ ntCells l, v.oneCell' = true := recs_one ntOf (fun r v hv => by simp [ntOf] at hv; rcases hv with rfl | rfl | rfl <;> rfl) l
theorem ntCells_at (l : List Nt) (j : Nat) (h : j < l.length) : (ntCells l)[j * 3]? = some (.int .i64 (l.getD j nt0).k) ∧ (ntCells l)[j * 3 + 1]? = some (.int .i64 (l.getD j nt0).p) ∧ (ntCells l)[j * 3 + 2]? = some (.int .i64 (l.getD j nt0).m) := by
  have key := fun i hi => recs_at ntOf 3 ntOf_len l nt0 j i h hi
  exact ⟨key 0 (by omega), key 1 (by omega), key 2 (by omega)⟩
theorem Sl.nt {w : World} {B : Nat} {a : Option Addr} {l : List Nt} (h : Sl w B a (ntCells l)) (h0 : 0 < l.length) :
    ∃ b off, a = some ⟨b, off, none⟩ ∧ b < B ∧ ∀ j, j < l.length → w.cell? ⟨b, off + j * 3, none⟩ = some (.int .i64 (l.getD j nt0).k) ∧ w.cell? ⟨b, off + j * 3 + 1, none⟩ = some (.int .i64 (l.getD j nt0).p) ∧ w.cell? ⟨b, off + j * 3 + 2, none⟩ = some (.int .i64 (l.getD j nt0).m) := by
  rcases h with h | ⟨b, off, e, hlt, hc⟩
  · have := congrArg List.length h
    rw [ntCells_length, List.length_nil] at this
    omega
  · exact ⟨b, off, e, hlt, fun j hj => ⟨hc _ _ (ntCells_at l j hj).1, hc _ _ (ntCells_at l j hj).2.1, hc _ _ (ntCells_at l j hj).2.2⟩⟩
theorem ntCells_set0 (l : List Nt) (i : Nat) (v : Int) (hi : i < l.length) : (ntCells l).set (i * 3 + 0) (.int .i64 v) = ntCells (l.set i { l.getD i nt0 with k := v }) := recs_set ntOf 3 ntOf_len l _ _ i 0 nt0 hi (by omega) rfl
theorem ntCells_set1 (l : List Nt) (i : Nat) (v : Int) (hi : i < l.length) : (ntCells l).set (i * 3 + 1) (.int .i64 v) = ntCells (l.set i { l.getD i nt0 with p := v }) := recs_set ntOf 3 ntOf_len l _ _ i 1 nt0 hi (by omega) rfl
theorem ntCells_set2 (l : List Nt) (i : Nat) (v : Int) (hi : i < l.length) : (ntCells l).set (i * 3 + 2) (.int .i64 v) = ntCells (l.set i { l.getD i nt0 with m := v }) := recs_set ntOf 3 ntOf_len l _ _ i 2 nt0 hi (by omega) rfl
theorem info_nt : (Try.prog.info? 50).map (fun i => (i.zero, i.size, i.bytes)) = some (some (.agg #[.int .i64 0, .int .i64 0, .int .i64 0]), 3, 24) := by kernel_rfl
theorem nt_nil_of {w : World} {B : Nat} {l : List Nt} (h : Sl w B none (ntCells l)) : l = [] := by
  rcases h with h | ⟨b, off, e, _⟩
  · have := congrArg List.length h
    rw [ntCells_length, List.length_nil] at this
    exact List.eq_nil_of_length_eq_zero (by omega)
  · cases e
theorem nt_sub {w : World} {B b1 o1 : Nat} {l : List Nt} (h : Sl w B (some ⟨b1, o1, none⟩) (ntCells l)) (k : Nat) : Sl w B (some ⟨b1, o1 + k * 3, none⟩) (ntCells (l.drop k)) := by
  rw [ntCells_drop]
  rcases h with h | ⟨b2, o2, e, hlt, hc⟩
  · rw [h]; exact .inl (by simp)
  · injection e with e
    injection e with e1 e2 _
    subst e1 e2
    refine .inr ⟨_, _, rfl, hlt, fun j u hu => ?_⟩
    rw [List.getElem?_drop] at hu
    have := hc _ _ hu
    rw [← this]; congr 2; omega
theorem nt_pre {w : World} {B : Nat} {a : Option Addr} {l : List Nt} (h : Sl w B a (ntCells l)) (k : Nat) : Sl w B a (ntCells (l.take k)) := by
  rw [ntCells_take]
  rcases h with h | ⟨b, off, e, hlt, hc⟩
  · exact .inl (by rw [h]; simp)
  · refine .inr ⟨b, off, e, hlt, fun j u hu => hc j u ?_⟩
    rw [List.getElem?_take] at hu
    split at hu
    · exact hu
    · cases hu
end Go.Proofs.Ytfjnmjibifefgaa
