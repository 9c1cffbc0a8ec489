/- A row of numbers that buildSlice laid, handed to PutAll; three cells of a record's box. -/
import Derived.Test.YtfjnmjibifefgaaBat
import Derived.Test.YtfjnmjibifefgaaPutAll
namespace Go.Proofs.Ytfjnmjibifefgaa
open Go.RowKit Vm Bm
set_option linter.unusedVariables false

/-- A block that begins with so many numbers. -/
def Rw (W : World) (g : Nat) (xs : List Int) : Prop := g < W.heap.size ∧ ∀ (j : Nat) (u : Value), (i64s xs)[j]? = some u → W.cell? ⟨g, j, none⟩ = some u
theorem Rw.new {W w : World} {g : Nat} {cs : Array Value} {t : TypeId} {xs : List Int} (hW : W.heap = (w.alloc (.cells cs t)).heap) (hg : g = w.heap.size) (hc : cs.toList = i64s xs) : Rw W g xs := by
  subst hg
  refine ⟨by rw [hW]; simp, fun j u hu => ?_⟩
  have e : ∀ a, W.cell? a = (w.alloc (.cells cs t)).cell? a := fun a => by simp only [World.cell?, hW]
  rw [e, World.cell?_alloc_at _ _ _ _ rfl, ← Array.getElem?_toList, hc]
  exact hu
theorem Rw.new2 {W w : World} {g : Nat} {cs : Array Value} {t : TypeId} {xs : List Int} (hW : W = w.alloc (.cells cs t)) (hg : g = w.heap.size) (hc : cs.toList = i64s xs) : Rw W g xs := Rw.new (by rw [hW]) hg hc
theorem Rw.alloc {W : World} {g : Nat} {xs : List Int} (h : Rw W g xs) (o : Obj) : Rw (W.alloc o) g xs :=
  ⟨Nat.lt_of_lt_of_le h.1 (by simp), fun j u hu => (World.cell?_alloc_past _ _ _ h.1).trans (h.2 j u hu)⟩
theorem Rw.alloc2 {W w : World} {g : Nat} {o : Obj} {xs : List Int} (hW : W = w.alloc o) (h : Rw w g xs) : Rw W g xs := by rw [hW]; exact h.alloc o
theorem Rw.drew2 {W w : World} {g : Nat} {xs : List Int} (hW : W = w.drew) (h : Rw w g xs) : Rw W g xs := by rw [hW]; exact ⟨h.1, h.2⟩
theorem Rw.keep {W W' : World} {g : Nat} {xs : List Int} (hb : Below W.heap.size W W') (h : Rw W g xs) : Rw W' g xs :=
  ⟨Nat.lt_of_lt_of_le h.1 hb.size, fun j u hu => (hb.cell (p := ⟨g, j, none⟩) h.1).trans (h.2 j u hu)⟩
theorem put_rw (xs : List Int) (n : Nat) (g : Nat) (W : World) (hn : n = xs.length) (hm : n ≤ 100) (hx : ∀ x ∈ xs, I64 x) (h : Rw W g xs) :
    Calls Try.prog 60 #[.slice (some ⟨g, 0, none⟩) n n] W fun e w' => e = .returned (.string (str (putN xs))) ∧ Below W.heap.size W w' :=
  put_all_walk (some ⟨g, 0, none⟩) n n W.heap.size xs W hn (by omega) (.inr ⟨g, 0, rfl, h.1, fun j u hu => by rw [Nat.zero_add]; exact h.2 j u hu⟩) (Nat.le_refl _) hx

theorem putN_small (xs : List Int) (h : ∀ x ∈ xs, I64 x) (hl : xs.length ≤ 10) : (str (putN xs)).size ≤ 100 := by
  rw [str_size]; have := putN_len xs h; omega
end Go.Proofs.Ytfjnmjibifefgaa
