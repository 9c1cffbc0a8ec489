/- Rows of headgate/headgatelaw36.Ask as cells. -/
import Derived.Test.YtbhbilmpkgcmeaaRecs
import Derived.Test.YtbhbilmpkgcmeaaRows
import Derived.IntWalk
import Derived.Lib.Hide
import Derived.Laws.AppendOwnNone
import Derived.OwnWalk
import Derived.WalkKit
namespace Go.Proofs.Ytbhbilmpkgcmeaa
open Go.RowKit Vm
set_option linter.unusedVariables false

structure Ak where
  w : Int
  n : Int
  t : Int
def ak0 : Ak := ⟨0, 0, 0⟩
def akOf (r : Ak) : List Value := [.int .i64 r.w, .int .i64 r.n, .int .i64 r.t]
def akCells (l : List Ak) : List Value := l.flatMap akOf
/-- Its numbers are int64s. -/
def AkI (r : Ak) : Prop := I64 r.w ∧ I64 r.n ∧ I64 r.t
theorem akOf_len (r : Ak) : (akOf r).length = 3 := rfl
theorem akCells_length (l : List Ak) : (akCells l).length = l.length * 3 := recs_length akOf 3 akOf_len l
theorem akCells_append (a b : List Ak) : akCells (a ++ b) = akCells a ++ akCells b := by simp [akCells]
theorem akCells_snoc (l : List Ak) (r : Ak) : akCells (l ++ [r]) = akCells l ++ [.int .i64 r.w, .int .i64 r.n, .int .i64 r.t] := by rw [akCells_append]; rfl
theorem akCells_take (l : List Ak) (i : Nat) : akCells (l.take i) = (akCells l).take (i * 3) := recs_take akOf 3 akOf_len l i
theorem akCells_drop (l : List Ak) (i : Nat) : akCells (l.drop i) = (akCells l).drop (i * 3) := recs_drop akOf 3 akOf_len l i
theorem akCells_one (l : List Ak) : ∀ v ∈ akCells l, v.oneCell' = true := recs_one akOf (fun r v hv => by simp [akOf] at hv; rcases hv with rfl | rfl | rfl <;> rfl) l
theorem akCells_at (l : List Ak) (j : Nat) (h : j < l.length) : (akCells l)[j * 3]? = some (.int .i64 (l.getD j ak0).w) ∧ (akCells l)[j * 3 + 1]? = some (.int .i64 (l.getD j ak0).n) ∧ (akCells l)[j * 3 + 2]? = some (.int .i64 (l.getD j ak0).t) := by
  have key := fun i hi => recs_at akOf 3 akOf_len l ak0 j i h hi
  exact ⟨key 0 (by omega), key 1 (by omega), key 2 (by omega)⟩
theorem Sl.ak {w : World} {B : Nat} {a : Option Addr} {l : List Ak} (h : Sl w B a (akCells l)) (h0 : 0 < l.length) :
    ∃ b off, a = some ⟨b, off, none⟩ ∧ b < B ∧ ∀ j, j < l.length → w.cell? ⟨b, off + j * 3, none⟩ = some (.int .i64 (l.getD j ak0).w) ∧ w.cell? ⟨b, off + j * 3 + 1, none⟩ = some (.int .i64 (l.getD j ak0).n) ∧ w.cell? ⟨b, off + j * 3 + 2, none⟩ = some (.int .i64 (l.getD j ak0).t) := by
  rcases h with h | ⟨b, off, e, hlt, hc⟩
  · have := congrArg List.length h
    rw [akCells_length, List.length_nil] at this
    omega
  · exact ⟨b, off, e, hlt, fun j hj => ⟨hc _ _ (akCells_at l j hj).1, hc _ _ (akCells_at l j hj).2.1, hc _ _ (akCells_at l j hj).2.2⟩⟩
theorem akCells_set0 (l : List Ak) (i : Nat) (v : Int) (hi : i < l.length) : (akCells l).set (i * 3 + 0) (.int .i64 v) = akCells (l.set i { l.getD i ak0 with w := v }) := recs_set akOf 3 akOf_len l _ _ i 0 ak0 hi (by omega) rfl
theorem akCells_set1 (l : List Ak) (i : Nat) (v : Int) (hi : i < l.length) : (akCells l).set (i * 3 + 1) (.int .i64 v) = akCells (l.set i { l.getD i ak0 with n := v }) := recs_set akOf 3 akOf_len l _ _ i 1 ak0 hi (by omega) rfl
theorem akCells_set2 (l : List Ak) (i : Nat) (v : Int) (hi : i < l.length) : (akCells l).set (i * 3 + 2) (.int .i64 v) = akCells (l.set i { l.getD i ak0 with t := v }) := recs_set akOf 3 akOf_len l _ _ i 2 ak0 hi (by omega) rfl
theorem info_ak : (Try.prog.info? 76).map (fun i => (i.zero, i.size, i.bytes)) = some (some (.agg #[.int .i64 0, .int .i64 0, .int .i64 0]), 3, 24) := by kernel_rfl
theorem ak_nil_of {w : World} {B : Nat} {l : List Ak} (h : Sl w B none (akCells l)) : l = [] := by
  rcases h with h | ⟨b, off, e, _⟩
  · have := congrArg List.length h
    rw [akCells_length, List.length_nil] at this
    exact List.eq_nil_of_length_eq_zero (by omega)
  · cases e
theorem ak_sub {w : World} {B b1 o1 : Nat} {l : List Ak} (h : Sl w B (some ⟨b1, o1, none⟩) (akCells l)) (k : Nat) : Sl w B (some ⟨b1, o1 + k * 3, none⟩) (akCells (l.drop k)) := by
  rw [akCells_drop]
  rcases h with h | ⟨b2, o2, e, hlt, hc⟩
  · rw [h]; exact .inl (by simp)
  · injection e with e
    injection e with e1 e2 _
    subst e1 e2
    refine .inr ⟨_, _, rfl, hlt, fun j u hu => ?_⟩
    rw [List.getElem?_drop] at hu
    have := hc _ _ hu
    rw [← this]; congr 2; omega
theorem ak_pre {w : World} {B : Nat} {a : Option Addr} {l : List Ak} (h : Sl w B a (akCells l)) (k : Nat) : Sl w B a (akCells (l.take k)) := by
  rw [akCells_take]
  rcases h with h | ⟨b, off, e, hlt, hc⟩
  · exact .inl (by rw [h]; simp)
  · refine .inr ⟨b, off, e, hlt, fun j u hu => hc j u ?_⟩
    rw [List.getElem?_take] at hu
    split at hu
    · exact hu
    · cases hu
end Go.Proofs.Ytbhbilmpkgcmeaa
