/- Rows of headgate/api.Prod as cells. -/
import Derived.Test.YtfjnmjibifefgaaRecs
import Derived.Test.YtfjnmjibifefgaaRows
import Derived.IntWalk
import Derived.Lib.Hide
import Derived.Laws.AppendOwnNone
import Derived.OwnWalk
import Derived.WalkKit
namespace Go.Proofs.Ytfjnmjibifefgaa
open Go.RowKit Vm
set_option linter.unusedVariables false

structure Pr where
  p : Int
  e : Int
  s : Int
  n : Int
  b : Int
def pr0 : Pr := ⟨0, 0, 0, 0, 0⟩
def prOf (r : Pr) : List Value := [.int .i64 r.p, .int .i64 r.e, .int .i64 r.s, .int .i64 r.n, .int .i64 r.b]
def prCells (l : List Pr) : List Value := l.flatMap prOf
/-- Its numbers are int64s. -/
def PrI (r : Pr) : Prop := I64 r.p ∧ I64 r.e ∧ I64 r.s ∧ I64 r.n ∧ I64 r.b
theorem prOf_len (r : Pr) : (prOf r).length = 5 := rfl
theorem prCells_length (l : List Pr) : (prCells l).length = l.length * 5 := recs_length prOf 5 prOf_len l
theorem prCells_append (a b : List Pr) : prCells (a ++ b) = prCells a ++ prCells b := by simp [prCells]
theorem prCells_snoc (l : List Pr) (r : Pr) : prCells (l ++ [r]) = prCells l ++ [.int .i64 r.p, .int .i64 r.e, .int .i64 r.s, .int .i64 r.n, .int .i64 r.b] := by rw [prCells_append]; rfl
theorem prCells_take (l : List Pr) (i : Nat) : prCells (l.take i) = (prCells l).take (i * 5) := recs_take prOf 5 prOf_len l i
theorem prCells_drop (l : List Pr) (i : Nat) : prCells (l.drop i) = (prCells l).drop (i * 5) := recs_drop prOf 5 prOf_len l i
theorem prCells_one (l : List Pr) : ∀ v ∈ prCells l, v.oneCell' = true := recs_one prOf (fun r v hv => by simp [prOf] at hv; rcases hv with rfl | rfl | rfl | rfl | rfl <;> rfl) l
theorem prCells_at (l : List Pr) (j : Nat) (h : j < l.length) : (prCells l)[j * 5]? = some (.int .i64 (l.getD j pr0).p) ∧ (prCells l)[j * 5 + 1]? = some (.int .i64 (l.getD j pr0).e) ∧ (prCells l)[j * 5 + 2]? = some (.int .i64 (l.getD j pr0).s) ∧ (prCells l)[j * 5 + 3]? = some (.int .i64 (l.getD j pr0).n) ∧ (prCells l)[j * 5 + 4]? = some (.int .i64 (l.getD j pr0).b) := by
  have key := fun i hi => recs_at prOf 5 prOf_len l pr0 j i h hi
  exact ⟨key 0 (by omega), key 1 (by omega), key 2 (by omega), key 3 (by omega), key 4 (by omega)⟩
theorem Sl.pr {w : World} {B : Nat} {a : Option Addr} {l : List Pr} (h : Sl w B a (prCells l)) (h0 : 0 < l.length) :
    ∃ b off, a = some ⟨b, off, none⟩ ∧ b < B ∧ ∀ j, j < l.length → w.cell? ⟨b, off + j * 5, none⟩ = some (.int .i64 (l.getD j pr0).p) ∧ w.cell? ⟨b, off + j * 5 + 1, none⟩ = some (.int .i64 (l.getD j pr0).e) ∧ w.cell? ⟨b, off + j * 5 + 2, none⟩ = some (.int .i64 (l.getD j pr0).s) ∧ w.cell? ⟨b, off + j * 5 + 3, none⟩ = some (.int .i64 (l.getD j pr0).n) ∧ w.cell? ⟨b, off + j * 5 + 4, none⟩ = some (.int .i64 (l.getD j pr0).b) := by
  rcases h with h | ⟨b, off, e, hlt, hc⟩
  · have := congrArg List.length h
    rw [prCells_length, List.length_nil] at this
    omega
  · exact ⟨b, off, e, hlt, fun j hj => ⟨hc _ _ (prCells_at l j hj).1, hc _ _ (prCells_at l j hj).2.1, hc _ _ (prCells_at l j hj).2.2.1, hc _ _ (prCells_at l j hj).2.2.2.1, hc _ _ (prCells_at l j hj).2.2.2.2⟩⟩
theorem prCells_set0 (l : List Pr) (i : Nat) (v : Int) (hi : i < l.length) : (prCells l).set (i * 5 + 0) (.int .i64 v) = prCells (l.set i { l.getD i pr0 with p := v }) := recs_set prOf 5 prOf_len l _ _ i 0 pr0 hi (by omega) rfl
theorem prCells_set1 (l : List Pr) (i : Nat) (v : Int) (hi : i < l.length) : (prCells l).set (i * 5 + 1) (.int .i64 v) = prCells (l.set i { l.getD i pr0 with e := v }) := recs_set prOf 5 prOf_len l _ _ i 1 pr0 hi (by omega) rfl
theorem prCells_set2 (l : List Pr) (i : Nat) (v : Int) (hi : i < l.length) : (prCells l).set (i * 5 + 2) (.int .i64 v) = prCells (l.set i { l.getD i pr0 with s := v }) := recs_set prOf 5 prOf_len l _ _ i 2 pr0 hi (by omega) rfl
theorem prCells_set3 (l : List Pr) (i : Nat) (v : Int) (hi : i < l.length) : (prCells l).set (i * 5 + 3) (.int .i64 v) = prCells (l.set i { l.getD i pr0 with n := v }) := recs_set prOf 5 prOf_len l _ _ i 3 pr0 hi (by omega) rfl
theorem prCells_set4 (l : List Pr) (i : Nat) (v : Int) (hi : i < l.length) : (prCells l).set (i * 5 + 4) (.int .i64 v) = prCells (l.set i { l.getD i pr0 with b := v }) := recs_set prOf 5 prOf_len l _ _ i 4 pr0 hi (by omega) rfl
theorem info_pr : (Try.prog.info? 44).map (fun i => (i.zero, i.size, i.bytes)) = some (some (.agg #[.int .i64 0, .int .i64 0, .int .i64 0, .int .i64 0, .int .i64 0]), 5, 40) := by kernel_rfl
theorem pr_nil_of {w : World} {B : Nat} {l : List Pr} (h : Sl w B none (prCells l)) : l = [] := by
  rcases h with h | ⟨b, off, e, _⟩
  · have := congrArg List.length h
    rw [prCells_length, List.length_nil] at this
    exact List.eq_nil_of_length_eq_zero (by omega)
  · cases e
theorem pr_sub {w : World} {B b1 o1 : Nat} {l : List Pr} (h : Sl w B (some ⟨b1, o1, none⟩) (prCells l)) (k : Nat) : Sl w B (some ⟨b1, o1 + k * 5, none⟩) (prCells (l.drop k)) := by
  rw [prCells_drop]
  rcases h with h | ⟨b2, o2, e, hlt, hc⟩
  · rw [h]; exact .inl (by simp)
  · injection e with e
    injection e with e1 e2 _
    subst e1 e2
    refine .inr ⟨_, _, rfl, hlt, fun j u hu => ?_⟩
    rw [List.getElem?_drop] at hu
    have := hc _ _ hu
    rw [← this]; congr 2; omega
theorem pr_pre {w : World} {B : Nat} {a : Option Addr} {l : List Pr} (h : Sl w B a (prCells l)) (k : Nat) : Sl w B a (prCells (l.take k)) := by
  rw [prCells_take]
  rcases h with h | ⟨b, off, e, hlt, hc⟩
  · exact .inl (by rw [h]; simp)
  · refine .inr ⟨b, off, e, hlt, fun j u hu => hc j u ?_⟩
    rw [List.getElem?_take] at hu
    split at hu
    · exact hu
    · cases hu
end Go.Proofs.Ytfjnmjibifefgaa
