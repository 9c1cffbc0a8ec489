/- Plain mathematics: in any row of ticks nobody is let through with more than may be. -/
import Derived.Test.YtbhbilmpkgcmeaaQuLaw2
namespace Go.Proofs.Ytbhbilmpkgcmeaa
open Go.RowKit Vm
set_option linter.unusedVariables false

/-- How much somebody took. -/
def sumW : List Ak → Int → Int
  | [], _ => 0
  | x :: l, w => (if x.w = w then x.n else 0) + sumW l w
theorem sumW_app (a b : List Ak) (w : Int) : sumW (a ++ b) w = sumW a w + sumW b w := by
  induction a with
  | nil => simp [sumW]
  | cons x t ih => simp only [List.cons_append, sumW, ih]; omega
theorem sumW_bound {l : List Ak} (h : ∀ x ∈ l, 0 ≤ x.n ∧ x.n ≤ 65535) (w : Int) : 0 ≤ sumW l w ∧ sumW l w ≤ 65535 * (l.length : Int) := by
  induction l with
  | nil => simp [sumW]
  | cons x t ih =>
    have h1 := ih (fun y hy => h y (by simp [hy]))
    have h2 := h x (by simp)
    rw [sumW, List.length_cons]
    split <;> omega
structure InvB (t m : Int) (tk : List Ak) (acs : List Ac) (now : Int) : Prop where
  one : ∀ i k, i ≤ k → k < tk.length → sumW ((tk.take (k + 1)).drop i) (tk.getD i ak0).w ≤ m + t * ((tk.getD k ak0).t - (tk.getD i ak0).t)
  two : ∀ i, i < tk.length → sumW (tk.drop i) (tk.getD i ak0).w + haveQ t m acs (tk.getD i ak0).w now ≤ m + t * (now - (tk.getD i ak0).t)
  three : ∀ x ∈ tk, (0 ≤ x.n ∧ x.n ≤ 65535) ∧ (0 ≤ x.w ∧ x.w ≤ 3) ∧ 0 ≤ x.t ∧ x.t ≤ now
theorem invB_nil (t m now : Int) (acs : List Ac) : InvB t m [] acs now := ⟨fun i k _ h => by simp at h, fun i h => by simp at h, fun x hx => by cases hx⟩
theorem invB_later {t m now d : Int} {tk : List Ak} {acs : List Ac} (ht : 1 ≤ t) (hd : 0 ≤ d) (h : InvB t m tk acs now) : InvB t m tk acs (now + d) := by
  refine ⟨h.one, fun i hi => ?_, fun x hx => ?_⟩
  · have h1 := h.two i hi
    have h2 := have_later (t := t) (m := m) (l := acs) (who := (tk.getD i ak0).w) (now := now) ht hd
    have e : t * (now + d - (tk.getD i ak0).t) = t * (now - (tk.getD i ak0).t) + t * d := by rw [show now + d - (tk.getD i ak0).t = (now - (tk.getD i ak0).t) + d from by omega, Int.mul_add]
    omega
  · have := h.three x hx; omega
theorem getD_app {α : Type} (l : List α) (x d : α) (i : Nat) (h : i < l.length) : (l ++ [x]).getD i d = l.getD i d := by
  rw [List.getD_eq_getElem?_getD, List.getElem?_append_left h, ← List.getD_eq_getElem?_getD]
theorem getD_end {α : Type} (l : List α) (x d : α) : (l ++ [x]).getD l.length d = x := by
  rw [List.getD_eq_getElem?_getD, List.getElem?_append_right (Nat.le_refl _)]; simp
theorem invB_take {t m now who n : Int} {tk : List Ak} {acs D : List Ac} {W : Int} (hm : MayQ t m) (hF : Four t m acs now) (hn : 0 ≤ n ∧ n ≤ 65535) (hw : 0 ≤ who ∧ who ≤ 3) (h0 : 0 ≤ now) (hT : Tk4 t m acs who n now D W 0) (h : InvB t m tk acs now) : InvB t m (tk ++ [⟨who, n, now⟩]) D now := by
  have hh := have_le (who := who) hm hF
  rcases hT with ⟨_, _, _, h⟩ | ⟨hnm, hle, rfl, _, _⟩ | ⟨_, _, _, _, h, _⟩
  · omega
  · have hhv := fun w' => have_put (t := t) (m := m) (l := acs) (who := who) (v := haveQ t m acs who now - n) (now := now) (w' := w') hF.1 (by omega)
    have hF2 := four_put hF h0 hw (v := haveQ t m acs who now - n) ⟨by omega, by omega⟩
    obtain ⟨e, he⟩ : ∃ e : Ak, e = ⟨who, n, now⟩ := ⟨_, rfl⟩
    rw [← he]
    have he1 : e.w = who := by rw [he]
    have he2 : e.n = n := by rw [he]
    have he3 : e.t = now := by rw [he]
    have key : ∀ i, i < (tk ++ [e]).length → sumW ((tk ++ [e]).drop i) ((tk ++ [e]).getD i ak0).w + haveQ t m (putR acKey acs ⟨who, haveQ t m acs who now - n, now⟩) ((tk ++ [e]).getD i ak0).w now ≤ m + t * (now - ((tk ++ [e]).getD i ak0).t) := by
      intro i hi
      rcases Nat.lt_or_ge i tk.length with h1 | h1
      · rw [getD_app _ _ _ _ h1, List.drop_append_of_le_length (by omega), sumW_app, hhv]
        have h2 := h.two i h1
        generalize (tk.getD i ak0).w = wi at *
        simp only [sumW, he1, he2]
        by_cases e : who = wi
        · subst e; simp only [if_true]; omega
        · simp only [if_neg e]; omega
      · obtain rfl : i = tk.length := by simp at hi; omega
        rw [getD_end, List.drop_append_of_le_length (Nat.le_refl _), List.drop_length, hhv]
        simp only [List.nil_append, sumW, he1, he2, he3, if_true, Int.sub_self, Int.mul_zero]
        omega
    refine ⟨fun i k hik hk => ?_, key, fun x hx => ?_⟩
    · rcases Nat.lt_or_ge k tk.length with h1 | h1
      · rw [getD_app _ _ _ _ (by omega), getD_app _ _ _ _ h1, List.take_append_of_le_length (by omega)]
        exact h.one i k hik h1
      · obtain rfl : k = tk.length := by simp at hk; omega
        have h2 := key i (by simp; omega)
        have hw' : ∀ w', 0 ≤ haveQ t m (putR acKey acs ⟨who, haveQ t m acs who now - n, now⟩) w' now := fun w' => (have_le hm hF2).1
        have h3 := hw' ((tk ++ [e]).getD i ak0).w
        rw [List.take_of_length_le (by simp), getD_end, he3]
        omega
    · rcases List.mem_append.1 hx with hx | hx
      · exact h.three x hx
      · rw [List.mem_singleton.1 hx, he]; exact ⟨hn, hw, h0, Int.le_refl _⟩
  · omega
theorem invB_wait {t m now who n : Int} {tk : List Ak} {acs D : List Ac} {W : Int} (hT : Tk4 t m acs who n now D W 10) (h : InvB t m tk acs now) : InvB t m tk D now := by
  rcases hT with ⟨_, _, _, h⟩ | ⟨_, _, _, _, h⟩ | ⟨_, _, rfl, _, _, _⟩
  · omega
  · omega
  · exact h
theorem sumW_step (tk : List Ak) (i k : Nat) (w : Int) (hik : i ≤ k) (hk : k < tk.length) : sumW ((tk.take (k + 1)).drop i) w = sumW ((tk.take k).drop i) w + (if (tk.getD k ak0).w = w then (tk.getD k ak0).n else 0) := by
  rw [take_get tk ak0 k hk, List.drop_append_of_le_length (by rw [List.length_take]; omega), sumW_app]
  simp only [sumW, Int.add_zero]
theorem ak_cells {w : World} {B b o : Nat} {l : List Ak} (h : Sl w B (some ⟨b, o, none⟩) (akCells l)) (j : Nat) (hj : j < l.length) : w.cell? ⟨b, o + j * 3, none⟩ = some (.int .i64 (l.getD j ak0).w) ∧ w.cell? ⟨b, o + j * 3 + 1, none⟩ = some (.int .i64 (l.getD j ak0).n) ∧ w.cell? ⟨b, o + j * 3 + 2, none⟩ = some (.int .i64 (l.getD j ak0).t) := by
  obtain ⟨b2, o2, e, _, hc⟩ := h.ak (by omega)
  injection e with e
  injection e with e1 e2 _
  subst e1 e2
  exact hc j hj
theorem mul_bound4 {t d : Int} (h1 : 0 ≤ t) (h2 : t ≤ 1048576) (h3 : -70000 ≤ d) (h4 : d ≤ 70000) : -73400320000 ≤ d * t ∧ d * t ≤ 73400320000 := by
  have a := Int.mul_le_mul_of_nonneg_right h4 h1
  have b := Int.mul_le_mul_of_nonneg_right h3 h1
  omega
end Go.Proofs.Ytbhbilmpkgcmeaa
