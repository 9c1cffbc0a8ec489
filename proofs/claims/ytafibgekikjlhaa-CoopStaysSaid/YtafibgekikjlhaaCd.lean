/- Rows of headgatelaw35.Deed as cells. -/
import Derived.Test.YtafibgekikjlhaaRecs
import Derived.Test.YtafibgekikjlhaaApp
import Derived.Test.YtafibgekikjlhaaRows
import Derived.Test.YtafibgekikjlhaaWhole
import Derived.IntWalk
import Derived.Lib.Hide
import Derived.Laws.AppendOwnNone
import Derived.OwnWalk
import Derived.WalkKit
namespace Go.Proofs.Ytafibgekikjlhaa
open Go.RowKit Vm
set_option linter.unusedVariables false

/-- A deed: its numbers, who joins (its contents, where they lie). -/
structure Cd where
  k : Int
  m : Int
  p : Int
  n : Bool
  l : List Int
  a : Option Addr
  c : Nat
def cd0 : Cd := ⟨0, 0, 0, false, [], none, 0⟩
def cdOf (x : Cd) : List Value := [.int .i64 x.k, .int .i64 x.m, .int .i64 x.p, .bool x.n, .slice x.a x.l.length x.c]
def cdCells (l : List Cd) : List Value := l.flatMap cdOf
theorem cdOf_len (r : Cd) : (cdOf r).length = 5 := rfl
theorem cdCells_length (l : List Cd) : (cdCells l).length = l.length * 5 := recs_length cdOf 5 cdOf_len l
theorem cdCells_append (a b : List Cd) : cdCells (a ++ b) = cdCells a ++ cdCells b := by simp [cdCells]
theorem cdCells_snoc (l : List Cd) (r : Cd) : cdCells (l ++ [r]) = cdCells l ++ [.int .i64 r.k, .int .i64 r.m, .int .i64 r.p, .bool r.n, .slice r.a r.l.length r.c] := by rw [cdCells_append]; rfl
theorem cdCells_one (l : List Cd) : ∀ v ∈ cdCells l, v.oneCell' = true := recs_one cdOf (fun r v hv => by simp [cdOf] at hv; rcases hv with rfl | rfl | rfl | rfl | rfl <;> rfl) l
theorem cdCells_at (l : List Cd) (j : Nat) (h : j < l.length) : (cdCells l)[j * 5]? = some (.int .i64 (l.getD j cd0).k) ∧ (cdCells l)[j * 5 + 1]? = some (.int .i64 (l.getD j cd0).m) ∧ (cdCells l)[j * 5 + 2]? = some (.int .i64 (l.getD j cd0).p) ∧ (cdCells l)[j * 5 + 3]? = some (.bool (l.getD j cd0).n) ∧ (cdCells l)[j * 5 + 4]? = some (.slice (l.getD j cd0).a (l.getD j cd0).l.length (l.getD j cd0).c) := by
  have key := fun i hi => recs_at cdOf 5 cdOf_len l cd0 j i h hi
  exact ⟨key 0 (by omega), key 1 (by omega), key 2 (by omega), key 3 (by omega), key 4 (by omega)⟩
theorem Sl.cd {w : World} {B : Nat} {a : Option Addr} {l : List Cd} (h : Sl w B a (cdCells l)) (h0 : 0 < l.length) :
    ∃ b off, a = some ⟨b, off, none⟩ ∧ b < B ∧ ∀ j, j < l.length → w.cell? ⟨b, off + j * 5, none⟩ = some (.int .i64 (l.getD j cd0).k) ∧ w.cell? ⟨b, off + j * 5 + 1, none⟩ = some (.int .i64 (l.getD j cd0).m) ∧ w.cell? ⟨b, off + j * 5 + 2, none⟩ = some (.int .i64 (l.getD j cd0).p) ∧ w.cell? ⟨b, off + j * 5 + 3, none⟩ = some (.bool (l.getD j cd0).n) ∧ w.cell? ⟨b, off + j * 5 + 4, none⟩ = some (.slice (l.getD j cd0).a (l.getD j cd0).l.length (l.getD j cd0).c) := by
  rcases h with h | ⟨b, off, e, hlt, hc⟩
  · have := congrArg List.length h
    rw [cdCells_length, List.length_nil] at this
    omega
  · exact ⟨b, off, e, hlt, fun j hj => ⟨hc _ _ (cdCells_at l j hj).1, hc _ _ (cdCells_at l j hj).2.1, hc _ _ (cdCells_at l j hj).2.2.1, hc _ _ (cdCells_at l j hj).2.2.2.1, hc _ _ (cdCells_at l j hj).2.2.2.2⟩⟩
theorem info_cd : (Try.prog.info? 41).map (fun i => (i.zero, i.size, i.bytes)) = some (some (.agg #[.int .i64 0, .int .i64 0, .int .i64 0, .bool false, .slice none 0 0]), 5, 56) := by kernel_rfl
end Go.Proofs.Ytafibgekikjlhaa
