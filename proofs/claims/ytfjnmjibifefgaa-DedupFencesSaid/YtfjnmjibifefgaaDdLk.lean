/- What a look at a batch tells. -/
import Derived.Test.YtfjnmjibifefgaaDdRow
import Derived.Test.YtfjnmjibifefgaaBatCheck2
namespace Go.Proofs.Ytfjnmjibifefgaa
open Go.RowKit Vm Bm
set_option linter.unusedVariables false
set_option linter.unusedSimpArgs false

/-- A batch, by a producer's row r: an offset, known or not, an error. -/
def DlIs (b : Bat) (r : Pr) (n : Int) (d : Bool) (e : Int) : Prop :=
  (¬ MayB b ∧ n = 0 ∧ d = false ∧ e = 1) ∨ (MayB b ∧ 2 < b.kind ∧ n = 0 ∧ d = false ∧ e = 1) ∨
  ((MayB b ∧ ¬ 2 < b.kind ∧ 0 ≤ b.seq) ∧
    ((b.pid = 0 ∧ n = 0 ∧ d = false ∧ e = 0) ∨
     (b.pid ≠ 0 ∧ b.epoch < r.e ∧ n = 0 ∧ d = false ∧ e = 8) ∨
     (b.pid ≠ 0 ∧ r.e < b.epoch ∧ 0 < b.seq ∧ n = 0 ∧ d = false ∧ e = 7) ∨
     (b.pid ≠ 0 ∧ r.e < b.epoch ∧ b.seq = 0 ∧ n = 0 ∧ d = false ∧ e = 0) ∨
     (b.pid ≠ 0 ∧ b.epoch = r.e ∧ r.n ≤ 0 ∧ 0 < b.seq ∧ n = 0 ∧ d = false ∧ e = 7) ∨
     (b.pid ≠ 0 ∧ b.epoch = r.e ∧ r.n ≤ 0 ∧ b.seq = 0 ∧ n = 0 ∧ d = false ∧ e = 0) ∨
     (b.pid ≠ 0 ∧ b.epoch = r.e ∧ 0 < r.n ∧ (b.seq = r.s ∧ (b.l.length : Int) = r.n) ∧ n = r.b ∧ d = true ∧ e = 0) ∨
     (b.pid ≠ 0 ∧ b.epoch = r.e ∧ 0 < r.n ∧ ¬ (b.seq = r.s ∧ (b.l.length : Int) = r.n) ∧ b.seq ≠ IntKind.i64.wrap (r.s + r.n) ∧ n = 0 ∧ d = false ∧ e = 7) ∨
     (b.pid ≠ 0 ∧ b.epoch = r.e ∧ 0 < r.n ∧ ¬ (b.seq = r.s ∧ (b.l.length : Int) = r.n) ∧ b.seq = IntKind.i64.wrap (r.s + r.n) ∧ n = 0 ∧ d = false ∧ e = 0)))
theorem dlIs_ex (b : Bat) (r : Pr) : ∃ n d e, DlIs b r n d e := by
  unfold DlIs
  by_cases h1 : MayB b
  · have hs : 0 ≤ b.seq := by have := h1.1; unfold HeadB at this; omega
    by_cases h2 : 2 < b.kind
    · exact ⟨0, false, 1, .inr (.inl ⟨h1, h2, rfl, rfl, rfl⟩)⟩
    · have hm : MayB b ∧ ¬ 2 < b.kind ∧ 0 ≤ b.seq := ⟨h1, h2, hs⟩
      by_cases h3 : b.pid = 0
      · exact ⟨_, _, _, .inr (.inr ⟨hm, .inl ⟨h3, rfl, rfl, rfl⟩⟩)⟩
      by_cases h4 : b.epoch < r.e
      · exact ⟨_, _, _, .inr (.inr ⟨hm, .inr (.inl ⟨h3, h4, rfl, rfl, rfl⟩)⟩)⟩
      by_cases h5 : r.e < b.epoch
      · by_cases h6 : 0 < b.seq
        · exact ⟨_, _, _, .inr (.inr ⟨hm, .inr (.inr (.inl ⟨h3, h5, h6, rfl, rfl, rfl⟩))⟩)⟩
        · exact ⟨_, _, _, .inr (.inr ⟨hm, .inr (.inr (.inr (.inl ⟨h3, h5, by omega, rfl, rfl, rfl⟩)))⟩)⟩
      have he : b.epoch = r.e := by omega
      by_cases h7 : r.n ≤ 0
      · by_cases h6 : 0 < b.seq
        · exact ⟨_, _, _, .inr (.inr ⟨hm, .inr (.inr (.inr (.inr (.inl ⟨h3, he, h7, h6, rfl, rfl, rfl⟩))))⟩)⟩
        · exact ⟨_, _, _, .inr (.inr ⟨hm, .inr (.inr (.inr (.inr (.inr (.inl ⟨h3, he, h7, by omega, rfl, rfl, rfl⟩)))))⟩)⟩
      have hn : 0 < r.n := by omega
      by_cases h8 : b.seq = r.s ∧ (b.l.length : Int) = r.n
      · exact ⟨_, _, _, .inr (.inr ⟨hm, .inr (.inr (.inr (.inr (.inr (.inr (.inl ⟨h3, he, hn, h8, rfl, rfl, rfl⟩))))))⟩)⟩
      by_cases h9 : b.seq = IntKind.i64.wrap (r.s + r.n)
      · exact ⟨_, _, _, .inr (.inr ⟨hm, .inr (.inr (.inr (.inr (.inr (.inr (.inr (.inr ⟨h3, he, hn, h8, h9, rfl, rfl, rfl⟩)))))))⟩)⟩
      · exact ⟨_, _, _, .inr (.inr ⟨hm, .inr (.inr (.inr (.inr (.inr (.inr (.inr (.inl ⟨h3, he, hn, h8, h9, rfl, rfl, rfl⟩)))))))⟩)⟩
  · exact ⟨0, false, 1, .inl ⟨h1, rfl, rfl, rfl⟩⟩
theorem wrap_sub (q s n : Int) (hq : I64 q) (hs : I64 s) (hn : I64 n) : IntKind.i64.wrap (q - n) = s ↔ q = IntKind.i64.wrap (s + n) := by
  unfold I64 at *
  rw [IntKind.wrap_i64, IntKind.wrap_i64]
  omega
def LkPost (w : World) (n : Int) (d : Bool) (E : Int) (e : Ending) (w' : World) : Prop := e = .returned (.tuple #[.int .i64 n, .bool d, .int .i64 E]) ∧ Below w.heap.size w w'
end Go.Proofs.Ytfjnmjibifefgaa
