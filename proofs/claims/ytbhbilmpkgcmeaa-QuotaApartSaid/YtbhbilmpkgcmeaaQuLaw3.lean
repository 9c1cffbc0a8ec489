/- Plain mathematics: what one takes is of no matter to another one. -/
import Derived.Test.YtbhbilmpkgcmeaaQuLaw2
namespace Go.Proofs.Ytbhbilmpkgcmeaa
open Go.RowKit Vm
set_option linter.unusedVariables false

def InvA (t m : Int) (who : Int) (A O : List Ac) (nw : Int) : Prop :=
  (¬ MayQ t m ∧ A = [] ∧ O = []) ∨ (MayQ t m ∧ Four t m A nw ∧ Four t m O nw ∧ getR acKey A who = getR acKey O who)
theorem invA_later {t m who nw d : Int} {A O : List Ac} (h : InvA t m who A O nw) (hd : 0 ≤ d) : InvA t m who A O (nw + d) := by
  rcases h with h | ⟨h1, h2, h3, h4⟩
  · exact .inl h
  · exact .inr ⟨h1, four_later h2 (by omega), four_later h3 (by omega), h4⟩
theorem tk4_get {t m : Int} {l D : List Ac} {who n now W E w' : Int} (h : Four t m l now) (hT : Tk4 t m l who n now D W E) (hE : E = 0 ∨ E = 10) : getR acKey D w' = if who = w' ∧ E = 0 then some ⟨who, haveQ t m l who now - n, now⟩ else getR acKey l w' := by
  rcases hT with ⟨_, _, _, rfl⟩ | ⟨_, _, rfl, _, rfl⟩ | ⟨_, _, rfl, _, rfl, _⟩
  · omega
  · rw [getR_put acKey l _ w' h.1]
    by_cases e : who = w'
    · rw [if_pos (show acKey ⟨who, _, now⟩ = w' from e), if_pos ⟨e, rfl⟩]
    · rw [if_neg (show ¬ acKey ⟨who, _, now⟩ = w' from e), if_neg (fun h => e h.1)]
  · rw [if_neg (fun h => by have := h.2; omega)]
theorem round_apart {t m : Int} {A O : List Ac} {nw who w n d : Int} (h : InvA t m who A O nw) (hn : 0 ≤ nw) (hd : 0 ≤ d) (hnd : nw + d ≤ 1099511627776) (hw : 0 ≤ w ∧ w ≤ 3) (h0 : 0 ≤ n) :
    ∃ D W E, TkIs t m A w n (nw + d) D W E ∧ (E = 1 ∨ E = 6 ∨ E = 0 ∨ E = 10) ∧ A.length ≤ 4 ∧ O.length ≤ 4 ∧ InvA t m who A O (nw + d) ∧
      (w ≠ who → (E = 0 ∨ E = 10) → InvA t m who D O (nw + d)) ∧ (w = who → ∃ D2, TkIs t m O w n (nw + d) D2 W E ∧ ((E = 0 ∨ E = 10) → InvA t m who D D2 (nw + d))) := by
  have hl := invA_later h hd
  rcases hl with ⟨hm, rfl, rfl⟩ | ⟨hm, hA, hO, hg⟩
  · have hb : ∀ l, ¬ GoodQ t m l w n (nw + d) := fun l hg => hm hg.1.1
    exact ⟨[], 0, 1, .inl ⟨hb _, rfl, rfl, rfl⟩, .inl rfl, by simp, by simp, .inl ⟨hm, rfl, rfl⟩, fun _ hE => by omega, fun _ => ⟨[], .inl ⟨hb _, rfl, rfl, rfl⟩, fun hE => by omega⟩⟩
  · obtain ⟨D, W, E, h1, h2⟩ := tk4 (who := w) (n := n) hm hA (by omega) hw h0
    refine ⟨D, W, E, h2, .inr (tk4_err h1), four_len hA, four_len hO, .inr ⟨hm, hA, hO, hg⟩, fun hne hE => .inr ⟨hm, tk4_four hm hA (by omega) hw h0 h1 (by omega), hO, ?_⟩, fun he => ?_⟩
    · rw [tk4_get hA h1 hE, if_neg (fun h => hne h.1), hg]
    · subst he
      have hh : haveQ t m A w (nw + d) = haveQ t m O w (nw + d) := by unfold haveQ; rw [hg]
      obtain ⟨D2, W2, E2, h3, h4⟩ := tk4 (who := w) (n := n) hm hO (by omega) hw h0
      have hWE : W2 = W ∧ E2 = E := by
        unfold Tk4 at h1 h3
        rw [← hh] at h3
        rcases h1 with ⟨a1, _, a3, a4⟩ | ⟨a1, a2, _, a3, a4⟩ | ⟨a1, a2, _, a3, a4, _⟩ <;> rcases h3 with ⟨b1, _, b3, b4⟩ | ⟨b1, b2, _, b3, b4⟩ | ⟨b1, b2, _, b3, b4, _⟩ <;> first | omega | exact ⟨by rw [b3, a3], by rw [b4, a4]⟩
      obtain ⟨rfl, rfl⟩ := hWE
      refine ⟨D2, h4, fun hE => .inr ⟨hm, tk4_four hm hA (by omega) hw h0 h1 (by omega), tk4_four hm hO (by omega) hw h0 h3 (by omega), ?_⟩⟩
      rw [tk4_get hA h1 hE, tk4_get hO h3 hE, hh, hg]
end Go.Proofs.Ytbhbilmpkgcmeaa
