/- What the laws of layer 6 share: the contracts in the spelling of their frames. -/
import Derived.Test.YtdeenkpkcibebaaAwake6
import Derived.Test.YtdeenkpkcibebaaBatDec
import Derived.Test.YtdeenkpkcibebaaRefBatDec
import Derived.Test.YtdeenkpkcibebaaRefBatEnc
import Derived.Test.YtdeenkpkcibebaaBatSame
import Derived.Test.YtdeenkpkcibebaaBatOpen
namespace Go.Proofs.Ytdeenkpkcibebaa
open Go.RowKit Vm Bm
set_option linter.unusedVariables false

theorem fvb {w1 w2 : World} {g : Nat} {b : Bat} {a : Option Addr} {c : Nat} (h : Fv w1 w2 g b a c) : Below w1.heap.size w1 w2 := h.2.2.2.2.2.2
theorem fv_of {w1 : World} {g : Nat} {t : TypeId} {b : Bat} {a : Option Addr} {c : Nat} (h : Whole w1 g t (bvc b a c)) : Fv w1 w1 g b a c :=
  ⟨h.cell 0, h.cell 1, h.cell 2, h.cell 3, h.cell 4, h.lt, Below.refl _ _⟩
theorem fv_drew {w1 w2 : World} {g : Nat} {b : Bat} {a : Option Addr} {c : Nat} (h : Fv w1 w2 g b a c) : Fv w1 w2.drew g b a c := fv_keep h ((Below.refl _ _).drew)
theorem batL_size {b : Bat} (h : MayB b) : (str (batL b)).size ≤ 140737488355328 := by
  have h1 := putN_len _ h.heads
  have h2 := recsL_len h.2.2
  have h3 := h.1.2.2.2.2.2.2
  rw [str_size]; unfold batL; rw [List.length_append]
  simp only [headsL, List.length_cons, List.length_nil] at h1 ⊢
  omega
/-- Both encoders, both decoders. -/
theorem benc_both (b : Bat) : ∃ (X : ByteArray) (K : Int), ((MayB b ∧ X = str (batL b) ∧ K = 0) ∨ (¬ MayB b ∧ X = ⟨#[]⟩ ∧ K = 1)) ∧
    (∀ a c B w, Sl w B a (recCells b.l) → B ≤ w.heap.size → Calls Try.prog 22 #[bv b a c] w fun e w' => e = .returned (.tuple #[.string X, .int .i64 K]) ∧ Below w.heap.size w w') ∧
    (∀ a c B w, Sl w B a (recCells b.l) → B ≤ w.heap.size → Calls Try.prog 23 #[bv b a c] w fun e w' => e = .returned (.tuple #[.string X, .int .i64 K]) ∧ Below w.heap.size w w') ∧
    (∀ a c B w, Sl w B a (recCells b.l) → B ≤ w.heap.size → Calls Try.prog 18 #[bv b a c] w fun e w' => e = .returned (.int .i64 K) ∧ Below w.heap.size w w') := by
  by_cases hm : MayB b
  · exact ⟨_, 0, .inl ⟨hm, rfl, rfl⟩, fun a c B w hl hB => benc_yes b a c B w hm hl hB, fun a c B w hl hB => renc6_yes b a c B w hm hl hB, fun a c B w hl hB => bcheck_walk b a c B w 0 (.inl ⟨hm, rfl⟩) hl hB⟩
  · exact ⟨_, 1, .inr ⟨hm, rfl, rfl⟩, fun a c B w hl hB => benc_no b a c B w hm hl hB, fun a c B w hl hB => renc6_no b a c B w hm hl hB, fun a c B w hl hB => bcheck_walk b a c B w 1 (.inr ⟨hm, rfl⟩) hl hB⟩
/-- What a decoder leaves: D, with its records; E. -/
def DPost (w : World) (D : Bat) (E : Int) (e : Ending) (w' : World) : Prop :=
  ∃ a c, e = .returned (.tuple #[.agg #[.int .i64 D.kind, .int .i64 D.pid, .int .i64 D.epoch, .int .i64 D.seq, .slice a D.l.length c], .int .i64 E]) ∧ Sl w' w'.heap.size a (recCells D.l) ∧ Below w.heap.size w w'
theorem bpost_of {w w' : World} {o : Option Bat} {D : Bat} {E : Int} {e : Ending} (h : BPost w o e w') (hD : (o = none ∧ D = zb ∧ E = 2) ∨ (o = some D ∧ E = 0)) : DPost w D E e w' := by
  obtain ⟨hb, ⟨h1, he⟩ | ⟨b, a, c, h1, he, hs⟩⟩ := h
  · rcases hD with ⟨_, rfl, rfl⟩ | ⟨h2, _⟩
    · exact ⟨none, 0, he, .inl rfl, hb⟩
    · rw [h1] at h2; cases h2
  · rcases hD with ⟨h2, _⟩ | ⟨h2, rfl⟩
    · rw [h1] at h2; cases h2
    · rw [h1] at h2; cases h2; exact ⟨a, c, he, hs, hb⟩
theorem unbat_len {s : List UInt8} {b : Bat} (h : unbatL s = some b) : b.l.length ≤ 64 := (unbatL_some h).1.1.2.2.2.2.2.2
theorem bdec_both (s : ByteArray) (hs : s.size ≤ 140737488355328) : ∃ (D : Bat) (E : Int), ((unbatL s.data.toList = none ∧ D = zb ∧ E = 2) ∨ (unbatL s.data.toList = some D ∧ E = 0)) ∧ D.l.length ≤ 64 ∧
    (∀ w, Calls Try.prog 24 #[.string s] w (DPost w D E)) ∧ (∀ w, Calls Try.prog 25 #[.string s] w (DPost w D E)) := by
  cases h : unbatL s.data.toList with
  | none => exact ⟨zb, 2, .inl ⟨rfl, rfl, rfl⟩, Nat.zero_le _, fun w => (bdec_walk s w none h.symm hs).mono fun e w' hp => bpost_of hp (.inl ⟨rfl, rfl, rfl⟩), fun w => (rbdec_walk s w none h.symm hs).mono fun e w' hp => bpost_of hp (.inl ⟨rfl, rfl, rfl⟩)⟩
  | some b => exact ⟨b, 0, .inr ⟨rfl, rfl⟩, unbat_len h, fun w => (bdec_walk s w (some b) h.symm hs).mono fun e w' hp => bpost_of hp (.inr ⟨rfl, rfl⟩), fun w => (rbdec_walk s w (some b) h.symm hs).mono fun e w' hp => bpost_of hp (.inr ⟨rfl, rfl⟩)⟩
end Go.Proofs.Ytdeenkpkcibebaa
