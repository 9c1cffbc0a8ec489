/- Rows of headgate/api.Batch as cells (my own words). -/
import Derived.Test.YtfjnmjibifefgaaRecs
import Derived.Test.YtfjnmjibifefgaaApp
import Derived.Test.YtfjnmjibifefgaaRows
import Derived.Test.YtfjnmjibifefgaaWhole
import Derived.Test.YtfjnmjibifefgaaBat
import Derived.IntWalk
import Derived.Lib.Hide
import Derived.Laws.AppendOwnNone
import Derived.OwnWalk
import Derived.WalkKit
namespace Go.Proofs.Ytfjnmjibifefgaa
open Go.RowKit Vm Bm
set_option linter.unusedVariables false

structure Bx where
  b : Bat
  a : Option Addr
  c : Nat
def bx0 : Bx := ⟨⟨0, 0, 0, 0, []⟩, none, 0⟩
def bxOf (x : Bx) : List Value := [.int .i64 x.b.kind, .int .i64 x.b.pid, .int .i64 x.b.epoch, .int .i64 x.b.seq, .slice x.a x.b.l.length x.c]
def bxCells (l : List Bx) : List Value := l.flatMap bxOf
theorem bxOf_len (r : Bx) : (bxOf r).length = 5 := rfl
theorem bxCells_length (l : List Bx) : (bxCells l).length = l.length * 5 := recs_length bxOf 5 bxOf_len l
theorem bxCells_append (a b : List Bx) : bxCells (a ++ b) = bxCells a ++ bxCells b := by simp [bxCells]
theorem bxCells_snoc (l : List Bx) (r : Bx) : bxCells (l ++ [r]) = bxCells l ++ [.int .i64 r.b.kind, .int .i64 r.b.pid, .int .i64 r.b.epoch, .int .i64 r.b.seq, .slice r.a r.b.l.length r.c] := by rw [bxCells_append]; rfl
theorem bxCells_one (l : List Bx) : ∀ v ∈ bxCells l, v.oneCell' = true := recs_one bxOf (fun r v hv => by simp [bxOf] at hv; rcases hv with rfl | rfl | rfl | rfl | rfl <;> rfl) l
theorem bxCells_at (l : List Bx) (j : Nat) (h : j < l.length) : (bxCells l)[j * 5]? = some (.int .i64 (l.getD j bx0).b.kind) ∧ (bxCells l)[j * 5 + 1]? = some (.int .i64 (l.getD j bx0).b.pid) ∧ (bxCells l)[j * 5 + 2]? = some (.int .i64 (l.getD j bx0).b.epoch) ∧ (bxCells l)[j * 5 + 3]? = some (.int .i64 (l.getD j bx0).b.seq) ∧ (bxCells l)[j * 5 + 4]? = some (.slice (l.getD j bx0).a (l.getD j bx0).b.l.length (l.getD j bx0).c) := by
  have key := fun i hi => recs_at bxOf 5 bxOf_len l bx0 j i h hi
  exact ⟨key 0 (by omega), key 1 (by omega), key 2 (by omega), key 3 (by omega), key 4 (by omega)⟩
theorem Sl.bx {w : World} {B : Nat} {a : Option Addr} {l : List Bx} (h : Sl w B a (bxCells l)) (h0 : 0 < l.length) :
    ∃ b off, a = some ⟨b, off, none⟩ ∧ b < B ∧ ∀ j, j < l.length → w.cell? ⟨b, off + j * 5, none⟩ = some (.int .i64 (l.getD j bx0).b.kind) ∧ w.cell? ⟨b, off + j * 5 + 1, none⟩ = some (.int .i64 (l.getD j bx0).b.pid) ∧ w.cell? ⟨b, off + j * 5 + 2, none⟩ = some (.int .i64 (l.getD j bx0).b.epoch) ∧ w.cell? ⟨b, off + j * 5 + 3, none⟩ = some (.int .i64 (l.getD j bx0).b.seq) ∧ w.cell? ⟨b, off + j * 5 + 4, none⟩ = some (.slice (l.getD j bx0).a (l.getD j bx0).b.l.length (l.getD j bx0).c) := by
  rcases h with h | ⟨b, off, e, hlt, hc⟩
  · have := congrArg List.length h
    rw [bxCells_length, List.length_nil] at this
    omega
  · exact ⟨b, off, e, hlt, fun j hj => ⟨hc _ _ (bxCells_at l j hj).1, hc _ _ (bxCells_at l j hj).2.1, hc _ _ (bxCells_at l j hj).2.2.1, hc _ _ (bxCells_at l j hj).2.2.2.1, hc _ _ (bxCells_at l j hj).2.2.2.2⟩⟩
theorem info_bx : (Try.prog.info? 25).map (fun i => (i.zero, i.size, i.bytes)) = some (some (.agg #[.int .i64 0, .int .i64 0, .int .i64 0, .int .i64 0, .slice none 0 0]), 5, 56) := by kernel_rfl
theorem info_i1 : (Try.prog.info? 3).map (fun i => (i.zero, i.size, i.bytes)) = some (some (.int .i64 0), 1, 8) := by kernel_rfl
/-- Rows of unlike types own unlike blocks. -/
theorem own_ne {w : World} {b1 b2 s1 s2 n1 n2 : Nat} {e1 e2 : TypeId} {v1 v2 : Value} {x1 x2 : List Value} (h1 : w.ownsRow b1 e1 s1 v1 n1 x1) (h2 : w.ownsRow b2 e2 s2 v2 n2 x2) (hne : e1 ≠ e2) : ∀ k, v1.ownBlock = some k → v2.ownBlock ≠ some k := by
  intro k hk1 hk2
  rcases h1.2 with ⟨rfl, _⟩ | ⟨g1, c1, cur1, rfl, _, hh1, _⟩
  · cases hk1
  · rcases h2.2 with ⟨rfl, _⟩ | ⟨g2, c2, cur2, rfl, _, hh2, _⟩
    · cases hk2
    · injection hk1 with hk1
      injection hk2 with hk2
      have : g1 = g2 := hk1.trans hk2.symm
      subst this
      rw [hh1] at hh2
      injection hh2 with hh2
      injection hh2 with _ h3 _
      exact hne h3
/-- A row stays where another one of an unlike type is appended to. -/
theorem own_far2 {w w' : World} {b1 s1 n1 : Nat} {e1 : TypeId} {v1 v2 : Value} {x1 : List Value} (h1 : w.ownsRow b1 e1 s1 v1 n1 x1) (hf : FarOf w w' v2) (hne : ∀ k, v1.ownBlock = some k → v2.ownBlock ≠ some k) : w'.ownsRow b1 e1 s1 v1 n1 x1 := by
  obtain ⟨hl, hr⟩ := h1
  refine ⟨hl, ?_⟩
  rcases hr with h0 | ⟨g, cap, cur, rfl, hg, hh, r⟩
  · exact .inl h0
  · refine .inr ⟨g, cap, cur, rfl, hg, ?_, r⟩
    rw [hf.2 g ?_ (hne g rfl)]
    · exact hh
    · apply Classical.byContradiction
      intro hc
      rw [Array.getElem?_eq_none (by omega)] at hh
      cases hh
end Go.Proofs.Ytfjnmjibifefgaa
