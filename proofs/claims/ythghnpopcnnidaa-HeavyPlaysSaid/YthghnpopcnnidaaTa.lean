/- Rows of headgate/api.Tally as cells. -/
import Derived.Test.YthghnpopcnnidaaRecs
import Derived.Test.YthghnpopcnnidaaRows
import Derived.IntWalk
import Derived.Lib.Hide
import Derived.Laws.AppendOwnNone
import Derived.OwnWalk
import Derived.WalkKit
namespace Go.Proofs.Ythghnpopcnnidaa
open Go.RowKit Vm
set_option linter.unusedVariables false

structure Ta where
  k : Int
  n : Int
  o : Int
def ta0 : Ta := ⟨0, 0, 0⟩
def taOf (r : Ta) : List Value := [.int .i64 r.k, .int .i64 r.n, .int .i64 r.o]
def taCells (l : List Ta) : List Value := l.flatMap taOf
/-- Its numbers are int64s. -/
def TaI (r : Ta) : Prop := I64 r.k ∧ I64 r.n ∧ I64 r.o
theorem taOf_len (r : Ta) : (taOf r).length = 3 := rfl
theorem taCells_length (l : List Ta) : (taCells l).length = l.length * 3 := recs_length taOf 3 taOf_len l
theorem taCells_append (a b : List Ta) : taCells (a ++ b) = taCells a ++ taCells b := by simp [taCells]
theorem taCells_snoc (l : List Ta) (r : Ta) : taCells (l ++ [r]) = taCells l ++ [.int .i64 r.k, .int .i64 r.n, .int .i64 r.o] := by rw [taCells_append]; rfl
theorem taCells_take (l : List Ta) (i : Nat) : taCells (l.take i) = (taCells l).take (i * 3) := recs_take taOf 3 taOf_len l i
theorem taCells_drop (l : List Ta) (i : Nat) : taCells (l.drop i) = (taCells l).drop (i * 3) := recs_drop taOf 3 taOf_len l i
theorem taCells_one (l : List Ta) : ∀ v ∈ taCells l, v.oneCell' = true := recs_one taOf (fun r v hv => by simp [taOf] at hv; rcases hv with rfl | rfl | rfl <;> rfl) l
theorem taCells_at (l : List Ta) (j : Nat) (h : j < l.length) : (taCells l)[j * 3]? = some (.int .i64 (l.getD j ta0).k) ∧ (taCells l)[j * 3 + 1]? = some (.int .i64 (l.getD j ta0).n) ∧ (taCells l)[j * 3 + 2]? = some (.int .i64 (l.getD j ta0).o) := by
  have key := fun i hi => recs_at taOf 3 taOf_len l ta0 j i h hi
  exact ⟨key 0 (by omega), key 1 (by omega), key 2 (by omega)⟩
theorem Sl.ta {w : World} {B : Nat} {a : Option Addr} {l : List Ta} (h : Sl w B a (taCells l)) (h0 : 0 < l.length) :
    ∃ b off, a = some ⟨b, off, none⟩ ∧ b < B ∧ ∀ j, j < l.length → w.cell? ⟨b, off + j * 3, none⟩ = some (.int .i64 (l.getD j ta0).k) ∧ w.cell? ⟨b, off + j * 3 + 1, none⟩ = some (.int .i64 (l.getD j ta0).n) ∧ w.cell? ⟨b, off + j * 3 + 2, none⟩ = some (.int .i64 (l.getD j ta0).o) := by
  rcases h with h | ⟨b, off, e, hlt, hc⟩
  · have := congrArg List.length h
    rw [taCells_length, List.length_nil] at this
    omega
  · exact ⟨b, off, e, hlt, fun j hj => ⟨hc _ _ (taCells_at l j hj).1, hc _ _ (taCells_at l j hj).2.1, hc _ _ (taCells_at l j hj).2.2⟩⟩
theorem taCells_set0 (l : List Ta) (i : Nat) (v : Int) (hi : i < l.length) : (taCells l).set (i * 3 + 0) (.int .i64 v) = taCells (l.set i { l.getD i ta0 with k := v }) := recs_set taOf 3 taOf_len l _ _ i 0 ta0 hi (by omega) rfl
theorem taCells_set1 (l : List Ta) (i : Nat) (v : Int) (hi : i < l.length) : (taCells l).set (i * 3 + 1) (.int .i64 v) = taCells (l.set i { l.getD i ta0 with n := v }) := recs_set taOf 3 taOf_len l _ _ i 1 ta0 hi (by omega) rfl
theorem taCells_set2 (l : List Ta) (i : Nat) (v : Int) (hi : i < l.length) : (taCells l).set (i * 3 + 2) (.int .i64 v) = taCells (l.set i { l.getD i ta0 with o := v }) := recs_set taOf 3 taOf_len l _ _ i 2 ta0 hi (by omega) rfl
theorem info_ta : (Try.prog.info? 45).map (fun i => (i.zero, i.size, i.bytes)) = some (some (.agg #[.int .i64 0, .int .i64 0, .int .i64 0]), 3, 24) := by kernel_rfl
theorem ta_nil_of {w : World} {B : Nat} {l : List Ta} (h : Sl w B none (taCells l)) : l = [] := by
  rcases h with h | ⟨b, off, e, _⟩
  · have := congrArg List.length h
    rw [taCells_length, List.length_nil] at this
    exact List.eq_nil_of_length_eq_zero (by omega)
  · cases e
theorem ta_sub {w : World} {B b1 o1 : Nat} {l : List Ta} (h : Sl w B (some ⟨b1, o1, none⟩) (taCells l)) (k : Nat) : Sl w B (some ⟨b1, o1 + k * 3, none⟩) (taCells (l.drop k)) := by
  rw [taCells_drop]
  rcases h with h | ⟨b2, o2, e, hlt, hc⟩
  · rw [h]; exact .inl (by simp)
  · injection e with e
    injection e with e1 e2 _
    subst e1 e2
    refine .inr ⟨_, _, rfl, hlt, fun j u hu => ?_⟩
    rw [List.getElem?_drop] at hu
    have := hc _ _ hu
    rw [← this]; congr 2; omega
theorem ta_pre {w : World} {B : Nat} {a : Option Addr} {l : List Ta} (h : Sl w B a (taCells l)) (k : Nat) : Sl w B a (taCells (l.take k)) := by
  rw [taCells_take]
  rcases h with h | ⟨b, off, e, hlt, hc⟩
  · exact .inl (by rw [h]; simp)
  · refine .inr ⟨b, off, e, hlt, fun j u hu => hc j u ?_⟩
    rw [List.getElem?_take] at hu
    split at hu
    · exact hu
    · cases hu
end Go.Proofs.Ythghnpopcnnidaa
