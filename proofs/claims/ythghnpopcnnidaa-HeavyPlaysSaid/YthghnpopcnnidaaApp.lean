/- An append to a row of the call's own of whatever a slice holds, nil included: one law, over any program. -/
import Derived.Test.YthghnpopcnnidaaRecs
import Derived.Laws.AppendOwnNone
import Derived.OwnWalk
import Derived.WalkKit
namespace Go.Proofs.Ythghnpopcnnidaa
open Go.RowKit Vm
set_option linter.unusedVariables false

theorem sl_fresh (w : World) (cs : List Value) (t : TypeId) : Sl (w.alloc (.cells cs.toArray t)) (w.alloc (.cells cs.toArray t)).heap.size (some ⟨w.heap.size, 0, none⟩) cs := by
  refine .inr ⟨_, 0, rfl, by simp, fun j u hu => ?_⟩
  rw [World.cell?_alloc_at _ _ _ _ rfl, Nat.zero_add]
  simpa using hu
theorem wp_app {P : Program} {w : World} {ops : Array Oper} {rest : List Oper} {o : Oper} {a : Act} {Q : Exit → Act → World → Prop} (hgd : o.guard = none) (s x : Operand) (t : TypeId)
    (ho : o.op = .call { callee := .builtin .append, args := #[s, x], argTypes := #[t, t] })
    (base : Nat) (e : TypeId) (i : TypeInfo) (z : Value) (size bytes : Nat) (ht : P.underlying t = some (.slice e)) (hi : P.info? e = some i) (hz : i.zero = some z)
    (hsize : i.size = size) (hby : i.bytes = bytes) (hzs : z.cells.size = size) (hsz : 0 < size)
    (v : Value) (n : Nat) (xs : List Value) (hs : a.eval s = v) (hown : w.ownsRow base e size v n xs)
    (a' : Option Addr) (m c : Nat) (hx : a.eval x = .slice a' m c) (news : List Value) (B : Nat) (W : World) (hl : news.length = m * size) (hsl : Sl w B a' news) (hnil : a' = none → m = 0 ∧ c = 0) (h1 : ∀ u ∈ news, u.oneCell' = true)
    (h63 : n + m ≤ maxLen) (hbytes : (n + m) * bytes ≤ 140737488355328) (hbase : base ≤ w.heap.size) (hb : Below base W w)
    (h : ∀ a2 c2 w', w'.ownsRow base e size (.slice a2 (n + m) c2) (n + m) (xs ++ news) → Below base W w' → wpList P ops Q rest (a.put o.dst (.slice a2 (n + m) c2)) w') : wpList P ops Q (o :: rest) a w := by
  cases a' with
  | none =>
    obtain ⟨rfl, rfl⟩ := hnil rfl
    have hn : news = [] := List.eq_nil_of_length_eq_zero (by omega)
    subst hn
    obtain ⟨a2, c2, rfl⟩ := ownN_shape hown
    refine wpList_append_own_none hgd s x t ho base e i size ht hi _ n xs hs hown hx ?_
    exact h a2 c2 w (by simpa using hown) hb
  | some ad =>
    refine wpList_append_own w hgd s x t ho base e i z size bytes ht hi hz hsize hby hzs hsz v n xs hs hown ad m c news hx hl (fun j u hu => ?_) h1 h63 hbytes hbase fun v' w' h2 h3 _ => ?_
    · rcases hsl with h0 | ⟨b, off, e1, _, hc⟩
      · rw [h0] at hu; cases hu
      · injection e1 with e1
        subst e1
        rw [add_at]; exact hc j u hu
    · obtain ⟨a2, c2, rfl⟩ := ownN_shape h2
      exact h a2 c2 w' h2 (hb.grown h3 hbase (fun g hg => (hown.lt g hg).1))
/-- All blocks but the row's own stay. -/
def FarOf (w w' : World) (v : Value) : Prop := w.heap.size ≤ w'.heap.size ∧ ∀ k, k < w.heap.size → v.ownBlock ≠ some k → w'.heap[k]? = w.heap[k]?
theorem wp_app2 {P : Program} {w : World} {ops : Array Oper} {rest : List Oper} {o : Oper} {a : Act} {Q : Exit → Act → World → Prop} (hgd : o.guard = none) (s x : Operand) (t : TypeId)
    (ho : o.op = .call { callee := .builtin .append, args := #[s, x], argTypes := #[t, t] })
    (base : Nat) (e : TypeId) (i : TypeInfo) (z : Value) (size bytes : Nat) (ht : P.underlying t = some (.slice e)) (hi : P.info? e = some i) (hz : i.zero = some z)
    (hsize : i.size = size) (hby : i.bytes = bytes) (hzs : z.cells.size = size) (hsz : 0 < size)
    (v : Value) (n : Nat) (xs : List Value) (hs : a.eval s = v) (hown : w.ownsRow base e size v n xs)
    (a' : Option Addr) (m c : Nat) (hx : a.eval x = .slice a' m c) (news : List Value) (B : Nat) (W : World) (hl : news.length = m * size) (hsl : Sl w B a' news) (hnil : a' = none → m = 0 ∧ c = 0) (h1 : ∀ u ∈ news, u.oneCell' = true)
    (h63 : n + m ≤ maxLen) (hbytes : (n + m) * bytes ≤ 140737488355328) (hbase : base ≤ w.heap.size) (hb : Below base W w)
    (h : ∀ a2 c2 w', w'.ownsRow base e size (.slice a2 (n + m) c2) (n + m) (xs ++ news) → Below base W w' → FarOf w w' v → wpList P ops Q rest (a.put o.dst (.slice a2 (n + m) c2)) w') : wpList P ops Q (o :: rest) a w := by
  cases a' with
  | none =>
    obtain ⟨rfl, rfl⟩ := hnil rfl
    have hn : news = [] := List.eq_nil_of_length_eq_zero (by omega)
    subst hn
    obtain ⟨a2, c2, rfl⟩ := ownN_shape hown
    refine wpList_append_own_none hgd s x t ho base e i size ht hi _ n xs hs hown hx ?_
    exact h a2 c2 w (by simpa using hown) hb ⟨Nat.le_refl _, fun _ _ _ => rfl⟩
  | some ad =>
    refine wpList_append_own w hgd s x t ho base e i z size bytes ht hi hz hsize hby hzs hsz v n xs hs hown ad m c news hx hl (fun j u hu => ?_) h1 h63 hbytes hbase fun v' w' h2 h3 _ => ?_
    · rcases hsl with h0 | ⟨b, off, e1, _, hc⟩
      · rw [h0] at hu; cases hu
      · injection e1 with e1
        subst e1
        rw [add_at]; exact hc j u hu
    · obtain ⟨a2, c2, rfl⟩ := ownN_shape h2
      exact h a2 c2 w' h2 (hb.grown h3 hbase (fun g hg => (hown.lt g hg).1)) ⟨h3.size, fun k hk hne => h3.block k hk (fun hh => hne hh.symm)⟩
theorem sl_apart {w w' : World} {B : Nat} {a : Option Addr} {xs : List Value} {v : Value} (h : Sl w w.heap.size a xs) (hk : FarOf w w' v) (hv : ∀ k, v.ownBlock = some k → k < B) (ha : ∀ x, a = some x → B ≤ x.block) : Sl w' w'.heap.size a xs := by
  rcases h with h | ⟨b, off, e, hlt, hc⟩
  · exact .inl h
  · have hb := ha _ e
    have hz := hk.1
    refine .inr ⟨b, off, e, by omega, fun j u hu => ?_⟩
    have h1 := hk.2 b hlt (fun hh => by have := hv b hh; simp only at hb; omega)
    rw [← hc j u hu]
    exact World.cell?_of_block (a := ⟨b, off + j, none⟩) h1
end Go.Proofs.Ythghnpopcnnidaa
