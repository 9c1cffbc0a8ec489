/- Plain mathematics of putB: order, sums, and that the order of puts is of no matter. -/
import Derived.Test.YtbljhmcenjmjjaaBkPut
namespace Go.Proofs.Ytbljhmcenjmjjaa
open Go.RowKit Vm Sk
set_option linter.unusedVariables false

/-- Rows in order, their numbers at least 1, their buckets between these ends. -/
def Ord : Option Int → List Bk → Prop
  | _, [] => True
  | lo, x :: t => -960 ≤ x.b ∧ x.b < 960 ∧ 1 ≤ x.n ∧ (∀ y, lo = some y → y < x.b) ∧ Ord (some x.b) t
theorem sumN_nil : sumN [] = 0 := rfl
theorem sumN_cons' (x : Bk) (t : List Bk) : sumN (x :: t) = x.n + sumN t := by unfold sumN; simp
theorem Ord.sum {lo : Option Int} {l : List Bk} (h : Ord lo l) : 0 ≤ sumN l := by
  induction l generalizing lo with
  | nil => simp [sumN]
  | cons x t ih => obtain ⟨_, _, h3, _, h5⟩ := h; have := ih h5; rw [sumN_cons']; omega
theorem Ord.n_le {lo : Option Int} {l : List Bk} (h : Ord lo l) {x : Bk} (hx : x ∈ l) : x.n ≤ sumN l := by
  induction l generalizing lo with
  | nil => cases hx
  | cons y t ih =>
    obtain ⟨_, _, h3, _, h5⟩ := h
    have hs := h5.sum
    rw [sumN_cons']
    rcases List.mem_cons.1 hx with rfl | hx
    · omega
    · have := ih h5 hx; omega
theorem putB_sum (l : List Bk) (b n : Int) : sumN (putB l b n) = sumN l + n := by
  induction l with
  | nil => simp [putB, sumN]
  | cons x t ih =>
    rw [putB]
    split
    · rw [sumN_cons', ih, sumN_cons']; omega
    · split
      · rw [sumN_cons', sumN_cons']; simp only; omega
      · rw [sumN_cons', sumN_cons']; simp only; omega
theorem putB_ord {l : List Bk} {lo : Option Int} {b n : Int} (h : Ord lo l) (hb : -960 ≤ b ∧ b < 960) (hn : 1 ≤ n) (hlo : ∀ y, lo = some y → y < b) : Ord lo (putB l b n) := by
  induction l generalizing lo with
  | nil => exact ⟨hb.1, hb.2, hn, hlo, trivial⟩
  | cons x t ih =>
    obtain ⟨h1, h2, h3, h4, h5⟩ := h
    rw [putB]
    split
    · next hlt => exact ⟨h1, h2, h3, h4, ih h5 (fun y hy => by cases hy; exact hlt)⟩
    · next hge =>
      split
      · next he => subst he; exact ⟨h1, h2, by simp only; omega, h4, h5⟩
      · next hne => exact ⟨hb.1, hb.2, hn, hlo, h1, h2, h3, (fun y hy => by cases hy; simp only; omega), h5⟩
theorem putB_len (l : List Bk) (b n : Int) : (putB l b n).length ≤ l.length + 1 := by
  induction l with
  | nil => simp [putB]
  | cons x t ih => rw [putB]; split; simp; omega; split <;> simp
/-- Two puts, in whichever order. -/
theorem putB_comm (l : List Bk) (a b m n : Int) : putB (putB l a m) b n = putB (putB l b n) a m := by
  induction l with
  | nil =>
    simp only [putB]
    by_cases h1 : a < b
    · rw [if_pos h1, if_neg (show ¬ b < a by omega), if_neg (show ¬ b = a by omega)]
    · by_cases h2 : a = b
      · subst h2; simp; omega
      · rw [if_neg h1, if_neg h2, if_pos (show b < a by omega)]
  | cons x t ih =>
    by_cases ha : x.b < a
    · by_cases hb : x.b < b
      · simp only [putB, if_pos ha, if_pos hb, ih]
      · by_cases hb2 : x.b = b
        · simp only [putB, if_pos ha, if_neg hb, if_pos hb2, if_pos (show b < a by omega)]
        · simp only [putB, if_pos ha, if_neg hb, if_neg hb2, if_pos (show b < a by omega)]
    · by_cases ha2 : x.b = a
      · by_cases hb : x.b < b
        · simp only [putB, if_neg ha, if_pos ha2, if_pos hb, if_pos (show a < b by omega)]
        · by_cases hb2 : x.b = b
          · have hab : a = b := by omega
            subst hab
            simp only [putB, if_neg ha, if_pos ha2]
            simp; omega
          · simp only [putB, if_neg ha, if_pos ha2, if_neg hb, if_neg hb2, if_neg (show ¬ a < b by omega), if_neg (show ¬ a = b by omega), if_pos (show b < a by omega)]
      · by_cases hb : x.b < b
        · simp only [putB, if_neg ha, if_neg ha2, if_pos hb, if_pos (show a < b by omega)]
        · by_cases hb2 : x.b = b
          · simp only [putB, if_neg ha, if_neg ha2, if_neg hb, if_pos hb2, if_pos (show a < b by omega), if_neg (show ¬ b < a by omega), if_neg (show ¬ b = a by omega)]
          · by_cases hab : a < b
            · simp only [putB, if_neg ha, if_neg ha2, if_neg hb, if_neg hb2, if_pos hab, if_neg (show ¬ b < a by omega), if_neg (show ¬ b = a by omega)]
            · by_cases hab2 : a = b
              · subst hab2
                simp only [putB, if_neg ha, if_neg ha2]
                simp; omega
              · simp only [putB, if_neg ha, if_neg ha2, if_neg hb, if_neg hb2, if_neg hab, if_neg hab2, if_pos (show b < a by omega)]
/-- Order, by places and by rows. -/
theorem ord_pre {l : List Bk} : ∀ {lo : Option Int}, Ord lo l → sumN l ≤ 1099511627776 → Pre l l.length := by
  intro lo h hs i hi
  have key : ∀ (l : List Bk) (lo : Option Int), Ord lo l → ∀ i, i < l.length → -960 ≤ (l.getD i bk0).b ∧ (l.getD i bk0).b < 960 ∧ 1 ≤ (l.getD i bk0).n ∧ (0 < i → (l.getD (i - 1) bk0).b < (l.getD i bk0).b) := by
    intro l
    induction l with
    | nil => intro lo _ i hi; cases hi
    | cons x t ih =>
      intro lo h i hi
      obtain ⟨h1, h2, h3, _, h5⟩ := h
      cases i with
      | zero => exact ⟨h1, h2, h3, fun h => by omega⟩
      | succ i =>
        obtain ⟨k1, k2, k3, k4⟩ := ih _ h5 i (by simpa using hi)
        refine ⟨by simpa using k1, by simpa using k2, by simpa using k3, fun _ => ?_⟩
        cases i with
        | zero =>
          cases t with
          | nil => simp at hi
          | cons y s => have := h5.2.2.2.1 x.b rfl; simpa using this
        | succ i => have := k4 (by omega); simpa using this
  obtain ⟨k1, k2, k3, k4⟩ := key l lo h i hi
  have hm : l.getD i bk0 ∈ l := by simp [List.getD, List.getElem?_eq_getElem hi]
  have := h.n_le hm
  exact ⟨k1, k2, k3, by omega, k4⟩
theorem pre_ord {l : List Bk} (h : Pre l l.length) : Ord none l := by
  have key : ∀ (l : List Bk) (lo : Option Int), Pre l l.length → (∀ y, lo = some y → ∀ x, l.head? = some x → y < x.b) → Ord lo l := by
    intro l
    induction l with
    | nil => intro lo _ _; exact trivial
    | cons x t ih =>
      intro lo h hlo
      have h0 := h 0 (by simp)
      unfold OkAt at h0
      simp only [List.getD_cons_zero] at h0
      refine ⟨h0.1, h0.2.1, h0.2.2.1, fun y hy => hlo y hy x rfl, ih _ (fun i hi => ?_) (fun y hy z hz => ?_)⟩
      · have h1 := h (i + 1) (by simp; omega)
        unfold OkAt at h1 ⊢
        refine ⟨by simpa using h1.1, by simpa using h1.2.1, by simpa using h1.2.2.1, by simpa using h1.2.2.2.1, fun hi0 => ?_⟩
        obtain ⟨j, rfl⟩ : ∃ j, i = j + 1 := ⟨i - 1, by omega⟩
        have := h1.2.2.2.2 (by omega)
        simpa using this
      · cases hy
        cases t with
        | nil => cases hz
        | cons w s =>
          cases hz
          have h1 := (h 1 (by simp)).2.2.2.2 (by omega)
          simpa using h1
  exact key l none h (fun y hy => by cases hy)
theorem putB_may {l : List Bk} {b n : Int} (h : MayS l) (hb : -960 ≤ b ∧ b < 960) (hn : 1 ≤ n) (hs : sumN l + n ≤ 1099511627776) : MayS (putB l b n) := by
  have ho := putB_ord (pre_ord h.1) hb hn (fun y hy => by cases hy)
  have hsum := putB_sum l b n
  exact ⟨ord_pre ho (by omega), by omega⟩
end Go.Proofs.Ytbljhmcenjmjjaa
