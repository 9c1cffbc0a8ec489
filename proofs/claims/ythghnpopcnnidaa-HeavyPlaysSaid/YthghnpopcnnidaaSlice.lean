/- A slice value of one-cell elements, and what it holds: my own words, over any program. -/
import Derived.Test.YthghnpopcnnidaaKit
import Derived.Laws.OwnMore
namespace Go.Proofs.Ythghnpopcnnidaa
open Go.RowKit Vm

theorem add_at (b off j : Nat) : (⟨b, off, none⟩ : Addr).add j = ⟨b, off + j, none⟩ := by
  simp only [Addr.add]; split
  · next e => subst e; rfl
  · rfl
/-- The slice that begins at a holds xs, in a block below B; an empty one holds nothing, wherever it begins. -/
def Sl (w : World) (B : Nat) (a : Option Addr) (xs : List Value) : Prop :=
  xs = [] ∨ ∃ b off, a = some ⟨b, off, none⟩ ∧ b < B ∧ ∀ j u, xs[j]? = some u → w.cell? ⟨b, off + j, none⟩ = some u

theorem Sl.nil (w : World) (B : Nat) (a : Option Addr) : Sl w B a [] := .inl rfl
theorem Sl.below {w w' : World} {B C : Nat} {a : Option Addr} {xs : List Value} (h : Sl w B a xs) (hb : Below C w w') (hC : B ≤ C) : Sl w' B a xs := by
  rcases h with h | ⟨b, off, e, hlt, hc⟩
  · exact .inl h
  · exact .inr ⟨b, off, e, hlt, fun j u hu => (hb.cell (p := ⟨b, off + j, none⟩) (by show b < C; omega)).trans (hc j u hu)⟩
theorem Sl.grow {w : World} {B C : Nat} {a : Option Addr} {xs : List Value} (h : Sl w B a xs) (hC : B ≤ C) : Sl w C a xs := by
  rcases h with h | ⟨b, off, e, hlt, hc⟩
  · exact .inl h
  · exact .inr ⟨b, off, e, by omega, hc⟩
theorem Sl.drew {w w' : World} {B : Nat} {a : Option Addr} {xs : List Value} (h : Sl w B a xs) (hd : Drew w w') : Sl w' B a xs := h.below (hd.below B) (Nat.le_refl _)
theorem Sl.at {w : World} {B : Nat} {a : Option Addr} {xs : List Value} (h : Sl w B a xs) {j : Nat} (hj : j < xs.length) :
    ∃ b off, a = some ⟨b, off, none⟩ ∧ b < B ∧ w.cell? ⟨b, off + j, none⟩ = some xs[j] := by
  rcases h with rfl | ⟨b, off, e, hlt, hc⟩
  · simp at hj
  · exact ⟨b, off, e, hlt, hc j _ (List.getElem?_eq_getElem hj)⟩
theorem Sl.own {w : World} {base : Nat} {e : TypeId} {v : Value} {n : Nat} {xs : List Value} (h : w.ownsRow base e 1 v n xs) :
    ∃ a c, v = .slice a n c ∧ Sl w w.heap.size a xs := by
  have hn : xs.length = n := by simpa using h.1
  rcases h.2 with ⟨rfl, rfl⟩ | ⟨g, cap, cur, rfl, hg, hh, _⟩
  · exact ⟨none, 0, rfl, .inl (List.eq_nil_of_length_eq_zero hn)⟩
  · have hlt := h.lt g rfl
    refine ⟨_, cap, rfl, .inr ⟨g, 0, rfl, hlt.2, fun j u hu => ?_⟩⟩
    have := h.cells (g := g) rfl j u hu
    rw [add_at] at this
    exact this
theorem own_sl {w : World} {base : Nat} {e : TypeId} {a : Option Addr} {n c : Nat} {xs : List Value} (h : w.ownsRow base e 1 (.slice a n c) n xs) : Sl w w.heap.size a xs := by
  obtain ⟨a', c', he, hs⟩ := Sl.own h
  injection he with h1 _ _
  subst h1
  exact hs
theorem own_base {w : World} {base base' n : Nat} {e : TypeId} {v : Value} {xs : List Value} (h : w.ownsRow base e 1 v n xs) (hb : base' ≤ base) : w.ownsRow base' e 1 v n xs := by
  obtain ⟨h1, h2⟩ := h
  refine ⟨h1, ?_⟩
  rcases h2 with h2 | ⟨g, cap, cur, hv, hg, r⟩
  · exact .inl h2
  · exact .inr ⟨g, cap, cur, hv, by omega, r⟩
def i64s (l : List Int) : List Value := l.map (Value.int .i64)
theorem i64s_length (l : List Int) : (i64s l).length = l.length := by simp [i64s]
theorem i64s_at (l : List Int) (j : Nat) (h : j < l.length) : (i64s l)[j]'(by rw [i64s_length]; exact h) = .int .i64 l[j] := by simp [i64s]
theorem i64s_snoc (l : List Int) (n : Int) : i64s (l ++ [n]) = i64s l ++ [.int .i64 n] := by simp [i64s]
theorem Sl.row {w : World} {k : IntKind} {a : Option Addr} {len cap : Nat} {zs : List Int} (h : IsRow k w a len cap zs) : Sl w w.heap.size a ((zs.take len).map (Value.int k)) := by
  rcases h with ⟨_, rfl, _, rfl⟩ | ⟨x, rfl, hl, _, hz, hc, _⟩
  · exact .inl rfl
  · by_cases h0 : len = 0
    · subst h0; exact .inl rfl
    · obtain ⟨b, off, spot⟩ := x
      have hc0 := hc 0 (by omega)
      have hspot : spot = none := by simpa [Addr.add] using World.cell?_spot hc0
      subst hspot
      refine .inr ⟨b, off, rfl, cell_lt hc0, fun j u hu => ?_⟩
      have hj : j < len := by
        have := (List.getElem?_eq_some_iff.1 hu).1
        simp at this; omega
      have hcj := hc j (by omega)
      rw [add_at] at hcj
      rw [hcj, ← hu]
      simp [hj, List.getD, List.getElem?_eq_getElem (show j < zs.length by omega)]
theorem row_len {w : World} {k : IntKind} {a : Option Addr} {len cap : Nat} {zs : List Int} (h : IsRow k w a len cap zs) : (zs.take len).length = len := by
  rcases h with ⟨_, rfl, _, rfl⟩ | ⟨x, rfl, hl, _, hz, _⟩
  · rfl
  · simp; omega
theorem row_wf {w : World} {k : IntKind} {a : Option Addr} {len cap : Nat} {zs : List Int} (h : IsRow k w a len cap zs) : ∀ n ∈ zs.take len, (Lit.int k n).wf = true := by
  rcases h with ⟨_, rfl, _, rfl⟩ | ⟨x, rfl, hl, _, hz, _, hw⟩
  · intro n hn; simp at hn
  · intro n hn; exact hw n (List.mem_of_mem_take hn)
end Go.Proofs.Ythghnpopcnnidaa
