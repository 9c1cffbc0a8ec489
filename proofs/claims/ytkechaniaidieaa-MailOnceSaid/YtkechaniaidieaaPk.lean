/- Rows of headgate/api.Packet as cells. -/
import Derived.Test.YtkechaniaidieaaRecs
import Derived.Test.YtkechaniaidieaaRows
import Derived.IntWalk
import Derived.Lib.Hide
import Derived.Laws.AppendOwnNone
import Derived.OwnWalk
import Derived.WalkKit
namespace Go.Proofs.Ytkechaniaidieaa
open Go.RowKit Vm
set_option linter.unusedVariables false

structure Pk where
  n : Int
  d : Int
  f : Int
  x : List UInt8
def pk0 : Pk := ⟨0, 0, 0, []⟩
def pkOf (r : Pk) : List Value := [.int .i64 r.n, .int .i64 r.d, .int .i64 r.f, .string (str r.x)]
def pkCells (l : List Pk) : List Value := l.flatMap pkOf
/-- Its numbers are int64s. -/
def PkI (r : Pk) : Prop := I64 r.n ∧ I64 r.d ∧ I64 r.f ∧ r.x.length ≤ 140737488355328
theorem pkOf_len (r : Pk) : (pkOf r).length = 4 := rfl
theorem pkCells_length (l : List Pk) : (pkCells l).length = l.length * 4 := recs_length pkOf 4 pkOf_len l
theorem pkCells_append (a b : List Pk) : pkCells (a ++ b) = pkCells a ++ pkCells b := by simp [pkCells]
theorem pkCells_snoc (l : List Pk) (r : Pk) : pkCells (l ++ [r]) = pkCells l ++ [.int .i64 r.n, .int .i64 r.d, .int .i64 r.f, .string (str r.x)] := by rw [pkCells_append]; rfl
theorem pkCells_take (l : List Pk) (i : Nat) : pkCells (l.take i) = (pkCells l).take (i * 4) := recs_take pkOf 4 pkOf_len l i
theorem pkCells_drop (l : List Pk) (i : Nat) : pkCells (l.drop i) = (pkCells l).drop (i * 4) := recs_drop pkOf 4 pkOf_len l i
theorem pkCells_one (l : List Pk) : ∀ v ∈ pkCells l, v.oneCell' = true := recs_one pkOf (fun r v hv => by simp [pkOf] at hv; rcases hv with rfl | rfl | rfl | rfl <;> rfl) l
theorem pkCells_at (l : List Pk) (j : Nat) (h : j < l.length) : (pkCells l)[j * 4]? = some (.int .i64 (l.getD j pk0).n) ∧ (pkCells l)[j * 4 + 1]? = some (.int .i64 (l.getD j pk0).d) ∧ (pkCells l)[j * 4 + 2]? = some (.int .i64 (l.getD j pk0).f) ∧ (pkCells l)[j * 4 + 3]? = some (.string (str (l.getD j pk0).x)) := by
  have key := fun i hi => recs_at pkOf 4 pkOf_len l pk0 j i h hi
  exact ⟨key 0 (by omega), key 1 (by omega), key 2 (by omega), key 3 (by omega)⟩
theorem Sl.pk {w : World} {B : Nat} {a : Option Addr} {l : List Pk} (h : Sl w B a (pkCells l)) (h0 : 0 < l.length) :
    ∃ b off, a = some ⟨b, off, none⟩ ∧ b < B ∧ ∀ j, j < l.length → w.cell? ⟨b, off + j * 4, none⟩ = some (.int .i64 (l.getD j pk0).n) ∧ w.cell? ⟨b, off + j * 4 + 1, none⟩ = some (.int .i64 (l.getD j pk0).d) ∧ w.cell? ⟨b, off + j * 4 + 2, none⟩ = some (.int .i64 (l.getD j pk0).f) ∧ w.cell? ⟨b, off + j * 4 + 3, none⟩ = some (.string (str (l.getD j pk0).x)) := by
  rcases h with h | ⟨b, off, e, hlt, hc⟩
  · have := congrArg List.length h
    rw [pkCells_length, List.length_nil] at this
    omega
  · exact ⟨b, off, e, hlt, fun j hj => ⟨hc _ _ (pkCells_at l j hj).1, hc _ _ (pkCells_at l j hj).2.1, hc _ _ (pkCells_at l j hj).2.2.1, hc _ _ (pkCells_at l j hj).2.2.2⟩⟩
theorem pkCells_set0 (l : List Pk) (i : Nat) (v : Int) (hi : i < l.length) : (pkCells l).set (i * 4 + 0) (.int .i64 v) = pkCells (l.set i { l.getD i pk0 with n := v }) := recs_set pkOf 4 pkOf_len l _ _ i 0 pk0 hi (by omega) rfl
theorem pkCells_set1 (l : List Pk) (i : Nat) (v : Int) (hi : i < l.length) : (pkCells l).set (i * 4 + 1) (.int .i64 v) = pkCells (l.set i { l.getD i pk0 with d := v }) := recs_set pkOf 4 pkOf_len l _ _ i 1 pk0 hi (by omega) rfl
theorem pkCells_set2 (l : List Pk) (i : Nat) (v : Int) (hi : i < l.length) : (pkCells l).set (i * 4 + 2) (.int .i64 v) = pkCells (l.set i { l.getD i pk0 with f := v }) := recs_set pkOf 4 pkOf_len l _ _ i 2 pk0 hi (by omega) rfl
theorem pkCells_set3 (l : List Pk) (i : Nat) (v : List UInt8) (hi : i < l.length) : (pkCells l).set (i * 4 + 3) (.string (str v)) = pkCells (l.set i { l.getD i pk0 with x := v }) := recs_set pkOf 4 pkOf_len l _ _ i 3 pk0 hi (by omega) rfl
theorem info_pk : (Try.prog.info? 37).map (fun i => (i.zero, i.size, i.bytes)) = some (some (.agg #[.int .i64 0, .int .i64 0, .int .i64 0, .string ByteArray.empty]), 4, 40) := by kernel_rfl
theorem pk_nil_of {w : World} {B : Nat} {l : List Pk} (h : Sl w B none (pkCells l)) : l = [] := by
  rcases h with h | ⟨b, off, e, _⟩
  · have := congrArg List.length h
    rw [pkCells_length, List.length_nil] at this
    exact List.eq_nil_of_length_eq_zero (by omega)
  · cases e
theorem pk_sub {w : World} {B b1 o1 : Nat} {l : List Pk} (h : Sl w B (some ⟨b1, o1, none⟩) (pkCells l)) (k : Nat) : Sl w B (some ⟨b1, o1 + k * 4, none⟩) (pkCells (l.drop k)) := by
  rw [pkCells_drop]
  rcases h with h | ⟨b2, o2, e, hlt, hc⟩
  · rw [h]; exact .inl (by simp)
  · injection e with e
    injection e with e1 e2 _
    subst e1 e2
    refine .inr ⟨_, _, rfl, hlt, fun j u hu => ?_⟩
    rw [List.getElem?_drop] at hu
    have := hc _ _ hu
    rw [← this]; congr 2; omega
theorem pk_pre {w : World} {B : Nat} {a : Option Addr} {l : List Pk} (h : Sl w B a (pkCells l)) (k : Nat) : Sl w B a (pkCells (l.take k)) := by
  rw [pkCells_take]
  rcases h with h | ⟨b, off, e, hlt, hc⟩
  · exact .inl (by rw [h]; simp)
  · refine .inr ⟨b, off, e, hlt, fun j u hu => hc j u ?_⟩
    rw [List.getElem?_take] at hu
    split at hu
    · exact hu
    · cases hu
end Go.Proofs.Ytkechaniaidieaa
