/- Rows of headgate/api.Account as cells. -/
import Derived.Test.YtbhbilmpkgcmeaaRecs
import Derived.Test.YtbhbilmpkgcmeaaRows
import Derived.IntWalk
import Derived.Lib.Hide
import Derived.Laws.AppendOwnNone
import Derived.OwnWalk
import Derived.WalkKit
namespace Go.Proofs.Ytbhbilmpkgcmeaa
open Go.RowKit Vm
set_option linter.unusedVariables false

structure Ac where
  o : Int
  l : Int
  s : Int
def ac0 : Ac := ⟨0, 0, 0⟩
def acOf (r : Ac) : List Value := [.int .i64 r.o, .int .i64 r.l, .int .i64 r.s]
def acCells (l : List Ac) : List Value := l.flatMap acOf
/-- Its numbers are int64s. -/
def AcI (r : Ac) : Prop := I64 r.o ∧ I64 r.l ∧ I64 r.s
theorem acOf_len (r : Ac) : (acOf r).length = 3 := rfl
theorem acCells_length (l : List Ac) : (acCells l).length = l.length * 3 := recs_length acOf 3 acOf_len l
theorem acCells_append (a b : List Ac) : acCells (a ++ b) = acCells a ++ acCells b := by simp [acCells]
theorem acCells_snoc (l : List Ac) (r : Ac) : acCells (l ++ [r]) = acCells l ++ [.int .i64 r.o, .int .i64 r.l, .int .i64 r.s] := by rw [acCells_append]; rfl
theorem acCells_take (l : List Ac) (i : Nat) : acCells (l.take i) = (acCells l).take (i * 3) := recs_take acOf 3 acOf_len l i
theorem acCells_drop (l : List Ac) (i : Nat) : acCells (l.drop i) = (acCells l).drop (i * 3) := recs_drop acOf 3 acOf_len l i
theorem acCells_one (l : List Ac) : ∀ v ∈ acCells l, v.oneCell' = true := recs_one acOf (fun r v hv => by simp [acOf] at hv; rcases hv with rfl | rfl | rfl <;> rfl) l
theorem acCells_at (l : List Ac) (j : Nat) (h : j < l.length) : (acCells l)[j * 3]? = some (.int .i64 (l.getD j ac0).o) ∧ (acCells l)[j * 3 + 1]? = some (.int .i64 (l.getD j ac0).l) ∧ (acCells l)[j * 3 + 2]? = some (.int .i64 (l.getD j ac0).s) := by
  have key := fun i hi => recs_at acOf 3 acOf_len l ac0 j i h hi
  exact ⟨key 0 (by omega), key 1 (by omega), key 2 (by omega)⟩
theorem Sl.ac {w : World} {B : Nat} {a : Option Addr} {l : List Ac} (h : Sl w B a (acCells l)) (h0 : 0 < l.length) :
    ∃ b off, a = some ⟨b, off, none⟩ ∧ b < B ∧ ∀ j, j < l.length → w.cell? ⟨b, off + j * 3, none⟩ = some (.int .i64 (l.getD j ac0).o) ∧ w.cell? ⟨b, off + j * 3 + 1, none⟩ = some (.int .i64 (l.getD j ac0).l) ∧ w.cell? ⟨b, off + j * 3 + 2, none⟩ = some (.int .i64 (l.getD j ac0).s) := by
  rcases h with h | ⟨b, off, e, hlt, hc⟩
  · have := congrArg List.length h
    rw [acCells_length, List.length_nil] at this
    omega
  · exact ⟨b, off, e, hlt, fun j hj => ⟨hc _ _ (acCells_at l j hj).1, hc _ _ (acCells_at l j hj).2.1, hc _ _ (acCells_at l j hj).2.2⟩⟩
theorem acCells_set0 (l : List Ac) (i : Nat) (v : Int) (hi : i < l.length) : (acCells l).set (i * 3 + 0) (.int .i64 v) = acCells (l.set i { l.getD i ac0 with o := v }) := recs_set acOf 3 acOf_len l _ _ i 0 ac0 hi (by omega) rfl
theorem acCells_set1 (l : List Ac) (i : Nat) (v : Int) (hi : i < l.length) : (acCells l).set (i * 3 + 1) (.int .i64 v) = acCells (l.set i { l.getD i ac0 with l := v }) := recs_set acOf 3 acOf_len l _ _ i 1 ac0 hi (by omega) rfl
theorem acCells_set2 (l : List Ac) (i : Nat) (v : Int) (hi : i < l.length) : (acCells l).set (i * 3 + 2) (.int .i64 v) = acCells (l.set i { l.getD i ac0 with s := v }) := recs_set acOf 3 acOf_len l _ _ i 2 ac0 hi (by omega) rfl
theorem info_ac : (Try.prog.info? 102).map (fun i => (i.zero, i.size, i.bytes)) = some (some (.agg #[.int .i64 0, .int .i64 0, .int .i64 0]), 3, 24) := by kernel_rfl
theorem ac_nil_of {w : World} {B : Nat} {l : List Ac} (h : Sl w B none (acCells l)) : l = [] := by
  rcases h with h | ⟨b, off, e, _⟩
  · have := congrArg List.length h
    rw [acCells_length, List.length_nil] at this
    exact List.eq_nil_of_length_eq_zero (by omega)
  · cases e
theorem ac_sub {w : World} {B b1 o1 : Nat} {l : List Ac} (h : Sl w B (some ⟨b1, o1, none⟩) (acCells l)) (k : Nat) : Sl w B (some ⟨b1, o1 + k * 3, none⟩) (acCells (l.drop k)) := by
  rw [acCells_drop]
  rcases h with h | ⟨b2, o2, e, hlt, hc⟩
  · rw [h]; exact .inl (by simp)
  · injection e with e
    injection e with e1 e2 _
    subst e1 e2
    refine .inr ⟨_, _, rfl, hlt, fun j u hu => ?_⟩
    rw [List.getElem?_drop] at hu
    have := hc _ _ hu
    rw [← this]; congr 2; omega
theorem ac_pre {w : World} {B : Nat} {a : Option Addr} {l : List Ac} (h : Sl w B a (acCells l)) (k : Nat) : Sl w B a (acCells (l.take k)) := by
  rw [acCells_take]
  rcases h with h | ⟨b, off, e, hlt, hc⟩
  · exact .inl (by rw [h]; simp)
  · refine .inr ⟨b, off, e, hlt, fun j u hu => hc j u ?_⟩
    rw [List.getElem?_take] at hu
    split at hu
    · exact hu
    · cases hu
end Go.Proofs.Ytbhbilmpkgcmeaa
