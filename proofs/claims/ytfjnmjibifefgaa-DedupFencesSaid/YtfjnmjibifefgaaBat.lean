/- Records and batches as cells. -/
import Derived.Test.YtfjnmjibifefgaaBm
import Derived.Test.YtfjnmjibifefgaaWhole
import Derived.Test.YtfjnmjibifefgaaRows
namespace Go.Proofs.Ytfjnmjibifefgaa
open Go.RowKit Vm Bm
set_option linter.unusedVariables false

def rv (r : Rec) : Value := .agg #[.int .i64 r.k, .int .i64 r.t, .string (str r.x)]
def recCells (l : List Rec) : List Value := l.flatMap fun r => [.int .i64 r.k, .int .i64 r.t, .string (str r.x)]
theorem recCells_length (l : List Rec) : (recCells l).length = l.length * 3 := by
  induction l with
  | nil => rfl
  | cons r l ih => simp only [recCells, List.flatMap_cons, List.length_append, List.length_cons, List.length_nil] at ih ⊢; omega
theorem recCells_append (a b : List Rec) : recCells (a ++ b) = recCells a ++ recCells b := by simp [recCells]
theorem recCells_at (l : List Rec) (j : Nat) (h : j < l.length) : (recCells l)[j * 3]? = some (.int .i64 l[j].k) ∧ (recCells l)[j * 3 + 1]? = some (.int .i64 l[j].t) ∧ (recCells l)[j * 3 + 2]? = some (.string (str l[j].x)) := by
  induction l generalizing j with
  | nil => cases h
  | cons r l ih =>
    have e : recCells (r :: l) = [.int .i64 r.k, .int .i64 r.t, .string (str r.x)] ++ recCells l := rfl
    cases j with
    | zero => exact ⟨rfl, rfl, rfl⟩
    | succ j =>
      obtain ⟨h0, h1, h2⟩ := ih j (by simpa using h)
      rw [e]
      refine ⟨?_, ?_, ?_⟩
      · rw [List.getElem?_append_right (by simp; omega)]; simpa [show (j + 1) * 3 - 3 = j * 3 from by omega] using h0
      · rw [List.getElem?_append_right (by simp; omega)]; simpa [show (j + 1) * 3 + 1 - 3 = j * 3 + 1 from by omega] using h1
      · rw [List.getElem?_append_right (by simp; omega)]; simpa [show (j + 1) * 3 + 2 - 3 = j * 3 + 2 from by omega] using h2
theorem Sl.rec {w : World} {B : Nat} {a : Option Addr} {l : List Rec} (h : Sl w B a (recCells l)) {j : Nat} (hj : j < l.length) :
    ∃ b off, a = some ⟨b, off, none⟩ ∧ b < B ∧ w.cell? ⟨b, off + j * 3, none⟩ = some (.int .i64 l[j].k) ∧ w.cell? ⟨b, off + j * 3 + 1, none⟩ = some (.int .i64 l[j].t) ∧ w.cell? ⟨b, off + j * 3 + 2, none⟩ = some (.string (str l[j].x)) := by
  obtain ⟨h0, h1, h2⟩ := recCells_at l j hj
  rcases h with h | ⟨b, off, e, hlt, hc⟩
  · have := congrArg List.length h
    rw [recCells_length, List.length_nil] at this
    omega
  · exact ⟨b, off, e, hlt, hc _ _ h0, hc _ _ h1, hc _ _ h2⟩
/-- What a batch is as cells; a is where its records lie. -/
def bvc (b : Bat) (a : Option Addr) (c : Nat) : Array Value := #[.int .i64 b.kind, .int .i64 b.pid, .int .i64 b.epoch, .int .i64 b.seq, .slice a b.l.length c]
def bv (b : Bat) (a : Option Addr) (c : Nat) : Value := .agg (bvc b a c)
structure BatWf (b : Bat) : Prop where
  k : I64 b.kind
  p : I64 b.pid
  e : I64 b.epoch
  s : I64 b.seq
  r : ∀ r ∈ b.l, RecI r
theorem Whole.five {w : World} {g : Nat} {t : TypeId} {b : Bat} {a : Option Addr} {c : Nat} (h : Whole w g t (bvc b a c)) :
    w.cell? ⟨g, 0, none⟩ = some (.int .i64 b.kind) ∧ w.cell? ⟨g, 1, none⟩ = some (.int .i64 b.pid) ∧ w.cell? ⟨g, 2, none⟩ = some (.int .i64 b.epoch) ∧ w.cell? ⟨g, 3, none⟩ = some (.int .i64 b.seq) ∧ w.cell? ⟨g, 4, none⟩ = some (.slice a b.l.length c) ∧ g < w.heap.size :=
  ⟨h.cell 0, h.cell 1, h.cell 2, h.cell 3, h.cell 4, h.lt⟩
end Go.Proofs.Ytfjnmjibifefgaa
