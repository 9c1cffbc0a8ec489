/- Rows of headgate/api.Member as cells. -/
import Derived.Test.YtocmhmfaehnliaaRecs
import Derived.Test.YtocmhmfaehnliaaRows
import Derived.IntWalk
import Derived.Lib.Hide
import Derived.Laws.AppendOwnNone
import Derived.OwnWalk
import Derived.WalkKit
namespace Go.Proofs.Ytocmhmfaehnliaa
open Go.RowKit Vm
set_option linter.unusedVariables false

structure Mb where
  i : Int
  k : Int
  d : Int
def mb0 : Mb := ⟨0, 0, 0⟩
def mbOf (r : Mb) : List Value := [.int .i64 r.i, .int .i64 r.k, .int .i64 r.d]
def mbCells (l : List Mb) : List Value := l.flatMap mbOf
/-- Its numbers are int64s. -/
def MbI (r : Mb) : Prop := I64 r.i ∧ I64 r.k ∧ I64 r.d
theorem mbOf_len (r : Mb) : (mbOf r).length = 3 := rfl
theorem mbCells_length (l : List Mb) : (mbCells l).length = l.length * 3 := recs_length mbOf 3 mbOf_len l
theorem mbCells_append (a b : List Mb) : mbCells (a ++ b) = mbCells a ++ mbCells b := by simp [mbCells]
theorem mbCells_snoc (l : List Mb) (r : Mb) : mbCells (l ++ [r]) = mbCells l ++ [.int .i64 r.i, .int .i64 r.k, .int .i64 r.d] := by rw [mbCells_append]; rfl
theorem mbCells_take (l : List Mb) (i : Nat) : mbCells (l.take i) = (mbCells l).take (i * 3) := recs_take mbOf 3 mbOf_len l i
theorem mbCells_drop (l : List Mb) (i : Nat) : mbCells (l.drop i) = (mbCells l).drop (i * 3) := recs_drop mbOf 3 mbOf_len l i
theorem mbCells_one (l : List Mb) : ∀ v ∈ mbCells l, v.oneCell' = true := recs_one mbOf (fun r v hv => by simp [mbOf] at hv; rcases hv with rfl | rfl | rfl <;> rfl) l
theorem mbCells_at (l : List Mb) (j : Nat) (h : j < l.length) : (mbCells l)[j * 3]? = some (.int .i64 (l.getD j mb0).i) ∧ (mbCells l)[j * 3 + 1]? = some (.int .i64 (l.getD j mb0).k) ∧ (mbCells l)[j * 3 + 2]? = some (.int .i64 (l.getD j mb0).d) := by
  have key := fun i hi => recs_at mbOf 3 mbOf_len l mb0 j i h hi
  exact ⟨key 0 (by omega), key 1 (by omega), key 2 (by omega)⟩
theorem Sl.mb {w : World} {B : Nat} {a : Option Addr} {l : List Mb} (h : Sl w B a (mbCells l)) (h0 : 0 < l.length) :
    ∃ b off, a = some ⟨b, off, none⟩ ∧ b < B ∧ ∀ j, j < l.length → w.cell? ⟨b, off + j * 3, none⟩ = some (.int .i64 (l.getD j mb0).i) ∧ w.cell? ⟨b, off + j * 3 + 1, none⟩ = some (.int .i64 (l.getD j mb0).k) ∧ w.cell? ⟨b, off + j * 3 + 2, none⟩ = some (.int .i64 (l.getD j mb0).d) := by
  rcases h with h | ⟨b, off, e, hlt, hc⟩
  · have := congrArg List.length h
    rw [mbCells_length, List.length_nil] at this
    omega
  · exact ⟨b, off, e, hlt, fun j hj => ⟨hc _ _ (mbCells_at l j hj).1, hc _ _ (mbCells_at l j hj).2.1, hc _ _ (mbCells_at l j hj).2.2⟩⟩
theorem mbCells_set0 (l : List Mb) (i : Nat) (v : Int) (hi : i < l.length) : (mbCells l).set (i * 3 + 0) (.int .i64 v) = mbCells (l.set i { l.getD i mb0 with i := v }) := recs_set mbOf 3 mbOf_len l _ _ i 0 mb0 hi (by omega) rfl
theorem mbCells_set1 (l : List Mb) (i : Nat) (v : Int) (hi : i < l.length) : (mbCells l).set (i * 3 + 1) (.int .i64 v) = mbCells (l.set i { l.getD i mb0 with k := v }) := recs_set mbOf 3 mbOf_len l _ _ i 1 mb0 hi (by omega) rfl
theorem mbCells_set2 (l : List Mb) (i : Nat) (v : Int) (hi : i < l.length) : (mbCells l).set (i * 3 + 2) (.int .i64 v) = mbCells (l.set i { l.getD i mb0 with d := v }) := recs_set mbOf 3 mbOf_len l _ _ i 2 mb0 hi (by omega) rfl
theorem info_mb : (Try.prog.info? 49).map (fun i => (i.zero, i.size, i.bytes)) = some (some (.agg #[.int .i64 0, .int .i64 0, .int .i64 0]), 3, 24) := by kernel_rfl
theorem mb_nil_of {w : World} {B : Nat} {l : List Mb} (h : Sl w B none (mbCells l)) : l = [] := by
  rcases h with h | ⟨b, off, e, _⟩
  · have := congrArg List.length h
    rw [mbCells_length, List.length_nil] at this
    exact List.eq_nil_of_length_eq_zero (by omega)
  · cases e
theorem mb_sub {w : World} {B b1 o1 : Nat} {l : List Mb} (h : Sl w B (some ⟨b1, o1, none⟩) (mbCells l)) (k : Nat) : Sl w B (some ⟨b1, o1 + k * 3, none⟩) (mbCells (l.drop k)) := by
  rw [mbCells_drop]
  rcases h with h | ⟨b2, o2, e, hlt, hc⟩
  · rw [h]; exact .inl (by simp)
  · injection e with e
    injection e with e1 e2 _
    subst e1 e2
    refine .inr ⟨_, _, rfl, hlt, fun j u hu => ?_⟩
    rw [List.getElem?_drop] at hu
    have := hc _ _ hu
    rw [← this]; congr 2; omega
theorem mb_pre {w : World} {B : Nat} {a : Option Addr} {l : List Mb} (h : Sl w B a (mbCells l)) (k : Nat) : Sl w B a (mbCells (l.take k)) := by
  rw [mbCells_take]
  rcases h with h | ⟨b, off, e, hlt, hc⟩
  · exact .inl (by rw [h]; simp)
  · refine .inr ⟨b, off, e, hlt, fun j u hu => hc j u ?_⟩
    rw [List.getElem?_take] at hu
    split at hu
    · exact hu
    · cases hu
end Go.Proofs.Ytocmhmfaehnliaa
