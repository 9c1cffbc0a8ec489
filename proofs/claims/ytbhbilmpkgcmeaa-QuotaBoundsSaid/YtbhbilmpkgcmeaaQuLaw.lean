/- Plain mathematics of who takes what, one behind the other, of four accounts at the most. -/
import Derived.Test.YtbhbilmpkgcmeaaQuTake
namespace Go.Proofs.Ytbhbilmpkgcmeaa
open Go.RowKit Vm
set_option linter.unusedVariables false

/-- How much somebody has. -/
def haveQ (t m : Int) (l : List Ac) (who now : Int) : Int := match getR acKey l who with
  | none => m
  | some x => availQ t m x now
/-- Accounts of the numbers 0 to 3, right at a time. -/
def Four (t m : Int) (l : List Ac) (now : Int) : Prop := SrtR acKey none l ∧ ∀ x ∈ l, (0 ≤ x.o ∧ x.o ≤ 3) ∧ 0 ≤ x.l ∧ x.l ≤ m ∧ 0 ≤ x.s ∧ x.s ≤ now
theorem srt_len {l : List Ac} : ∀ {lo : Int}, SrtR acKey (some lo) l → (∀ x ∈ l, x.o ≤ 3) → lo ≤ 3 → (l.length : Int) ≤ 3 - lo := by
  induction l with
  | nil => intro lo _ _ h; simp; omega
  | cons x t ih =>
    intro lo h h3 hlo
    have h1 := h.1 lo rfl
    have hx := h3 x (by simp)
    have := ih h.2 (fun y hy => h3 y (by simp [hy])) hx
    unfold acKey at *
    rw [List.length_cons]
    omega
theorem four_len {t m now : Int} {l : List Ac} (h : Four t m l now) : l.length ≤ 4 := by
  cases l with
  | nil => simp
  | cons x s =>
    have hx := (h.2 x (by simp)).1
    have := srt_len (lo := x.o) h.1.2 (fun y hy => (h.2 y (by simp [hy])).1.2) hx.2
    rw [List.length_cons]
    omega
theorem four_right {t m now : Int} {l : List Ac} (hm : MayQ t m) (hn : 0 ≤ now ∧ now ≤ 1099511627776) (h : Four t m l now) : RightQ t m l now := by
  refine ⟨hm, hn, by have := four_len h; omega, fun i hi => ?_⟩
  obtain ⟨h1, h2, h3, h4, h5⟩ := h.2 _ (getD_mem l ac0 i hi)
  refine ⟨⟨h1.1, by omega⟩, h2, h3, h4, h5, fun h0 => ?_⟩
  exact srtR_asc acKey ac0 h.1 (i - 1) i (by omega) hi
theorem four_later {t m now now' : Int} {l : List Ac} (h : Four t m l now) (hn : now ≤ now') : Four t m l now' :=
  ⟨h.1, fun x hx => by have := h.2 x hx; omega⟩
theorem four_nil (t m now : Int) : Four t m [] now := ⟨trivial, fun x hx => by cases hx⟩
theorem four_put {t m now who v : Int} {l : List Ac} (h : Four t m l now) (hn : 0 ≤ now) (hw : 0 ≤ who ∧ who ≤ 3) (hv : 0 ≤ v ∧ v ≤ m) : Four t m (putR acKey l ⟨who, v, now⟩) now := by
  refine ⟨putR_srt acKey h.1 (fun y hy => by cases hy), fun x hx => ?_⟩
  rcases putR_mem acKey hx with rfl | hx
  · exact ⟨hw, hv.1, hv.2, hn, Int.le_refl _⟩
  · exact h.2 x hx
theorem have_le {t m now who : Int} {l : List Ac} (hm : MayQ t m) (h : Four t m l now) : 0 ≤ haveQ t m l who now ∧ haveQ t m l who now ≤ m := by
  unfold haveQ
  have := hm.2.2.1
  split
  · omega
  · next x hx =>
    have hx := h.2 x (getR_some acKey hx).1
    exact availQ_le hm.1 hx.2.1 (by omega) hx.2.2.2.2
/-- What taking so much of four accounts answers. -/
def Tk4 (t m : Int) (l : List Ac) (who n now : Int) (D : List Ac) (W E : Int) : Prop :=
  (m < n ∧ D = [] ∧ W = 0 ∧ E = 6) ∨ (n ≤ m ∧ n ≤ haveQ t m l who now ∧ D = putR acKey l ⟨who, haveQ t m l who now - n, now⟩ ∧ W = 0 ∧ E = 0) ∨
  (n ≤ m ∧ haveQ t m l who now < n ∧ D = l ∧ W = (n - haveQ t m l who now + t - 1) / t ∧ E = 10 ∧ ∃ x, getR acKey l who = some x)
theorem tk4 {t m : Int} {l : List Ac} {who n now : Int} (hm : MayQ t m) (h : Four t m l now) (hn : 0 ≤ now ∧ now ≤ 1099511627776) (hw : 0 ≤ who ∧ who ≤ 3) (h0 : 0 ≤ n) :
    ∃ D W E, Tk4 t m l who n now D W E ∧ TkIs t m l who n now D W E := by
  have hg : GoodQ t m l who n now := ⟨four_right hm hn h, by omega, h0⟩
  by_cases h1 : m < n
  · exact ⟨[], 0, 6, .inl ⟨h1, rfl, rfl, rfl⟩, .inr (.inl ⟨hg, h1, rfl, rfl, rfl⟩)⟩
  · have hl := four_len h
    unfold Tk4 haveQ
    cases hx : getR acKey l who with
    | none => exact ⟨_, 0, 0, .inr (.inl ⟨by omega, by simp only; omega, rfl, rfl, rfl⟩), .inr (.inr (.inr (.inl ⟨hg, by omega, hx, by omega, rfl, rfl, rfl⟩)))⟩
    | some x =>
      by_cases h2 : n ≤ availQ t m x now
      · exact ⟨_, 0, 0, .inr (.inl ⟨by omega, h2, rfl, rfl, rfl⟩), .inr (.inr (.inr (.inr (.inl ⟨hg, by omega, ⟨x, hx, h2, rfl⟩, rfl, rfl⟩))))⟩
      · exact ⟨l, _, 10, .inr (.inr ⟨by omega, by simp only; omega, rfl, rfl, rfl, x, rfl⟩), .inr (.inr (.inr (.inr (.inr ⟨hg, by omega, ⟨x, hx, by omega, rfl, rfl⟩, rfl⟩))))⟩
theorem tk4_four {t m : Int} {l D : List Ac} {who n now W E : Int} (hm : MayQ t m) (h : Four t m l now) (hn : 0 ≤ now) (hw : 0 ≤ who ∧ who ≤ 3) (h0 : 0 ≤ n) (hT : Tk4 t m l who n now D W E) (hE : E ≠ 6) : Four t m D now := by
  have hh := have_le (who := who) hm h
  rcases hT with ⟨_, _, _, rfl⟩ | ⟨_, h1, rfl, _, _⟩ | ⟨_, _, rfl, _, _⟩
  · exact absurd rfl hE
  · exact four_put h hn hw ⟨by omega, by omega⟩
  · exact h
theorem tk4_err {t m : Int} {l D : List Ac} {who n now W E : Int} (hT : Tk4 t m l who n now D W E) : E = 6 ∨ E = 0 ∨ E = 10 := by
  rcases hT with ⟨_, _, _, rfl⟩ | ⟨_, _, _, _, rfl⟩ | ⟨_, _, _, _, rfl, _⟩ <;> simp
theorem availQ_later {t m : Int} {x : Ac} {now d : Int} (ht : 1 ≤ t) (hd : 0 ≤ d) : availQ t m x now ≤ availQ t m x (now + d) ∧ availQ t m x (now + d) ≤ availQ t m x now + t * d := by
  have e : t * (now + d - x.s) = t * (now - x.s) + t * d := by rw [show now + d - x.s = (now - x.s) + d from by omega, Int.mul_add]
  have h1 : 0 ≤ t * d := Int.mul_nonneg (by omega) hd
  unfold availQ
  rw [e]
  split <;> split <;> omega
theorem have_later {t m : Int} {l : List Ac} {who now d : Int} (ht : 1 ≤ t) (hd : 0 ≤ d) : haveQ t m l who (now + d) ≤ haveQ t m l who now + t * d := by
  unfold haveQ
  have h1 : 0 ≤ t * d := Int.mul_nonneg (by omega) hd
  split
  · omega
  · exact (availQ_later ht hd).2
theorem have_put {t m : Int} {l : List Ac} {who v now w' : Int} {lo : Option Int} (hs : SrtR acKey lo l) (hv : v ≤ m) : haveQ t m (putR acKey l ⟨who, v, now⟩) w' now = if who = w' then v else haveQ t m l w' now := by
  unfold haveQ
  rw [getR_put acKey l _ w' hs]
  by_cases e : who = w'
  · rw [if_pos (show acKey ⟨who, v, now⟩ = w' from e), if_pos e]
    show availQ t m ⟨who, v, now⟩ now = v
    unfold availQ
    simp only [Int.sub_self, Int.mul_zero, Int.add_zero]
    split <;> omega
  · rw [if_neg (show ¬ acKey ⟨who, v, now⟩ = w' from e), if_neg e]
/-- Whoever waits as told is let through, and not a tick earlier. -/
theorem wait_tells {t m : Int} {l : List Ac} {who n now : Int} (hm : MayQ t m) (h : Four t m l now) (hn : 0 ≤ now ∧ now ≤ 1000000) (hw : 0 ≤ who ∧ who ≤ 3) (h0 : 0 ≤ n) {W : Int} (h1 : n ≤ m) (h2 : haveQ t m l who now < n) (hW : W = (n - haveQ t m l who now + t - 1) / t) (hx : ∃ x, getR acKey l who = some x) :
    1 ≤ W ∧ W ≤ 1048576 ∧ TkIs t m l who n (now + W - 1) l 1 10 ∧ ∃ D, TkIs t m l who n (now + W) D 0 0 := by
  obtain ⟨x, hx⟩ := hx
  have hh := have_le (who := who) hm h
  have ht := hm.1
  have hhv : haveQ t m l who now = availQ t m x now := by unfold haveQ; rw [hx]
  rw [hhv] at h2 hW hh
  generalize hA : availQ t m x now = A at *
  have hcap : A = x.l + t * (now - x.s) := by unfold availQ at hA; split at hA <;> omega
  have hq : t * W ≤ n - A + t - 1 ∧ n - A + t - 1 < t * W + t := by
    rw [hW]
    have e1 := Int.mul_ediv_add_emod (n - A + t - 1) t
    have e2 := Int.emod_nonneg (n - A + t - 1) (show t ≠ 0 by omega)
    have e3 := Int.emod_lt_of_pos (n - A + t - 1) (show 0 < t by omega)
    omega
  have hW1 : 1 ≤ W := by
    rw [hW]
    exact Int.le_ediv_of_mul_le (by omega) (by omega)
  have hW2 : W ≤ 1048576 := by
    have := hm.2.2.2
    have h5 : 1 * W ≤ t * W := Int.mul_le_mul_of_nonneg_right ht (by omega)
    rcases Int.lt_or_le 1048576 W with h6 | h6
    · have h7 : t * (W - 1) ≤ n - A - 1 := by rw [Int.mul_sub]; omega
      have h8 : 1 * (W - 1) ≤ t * (W - 1) := Int.mul_le_mul_of_nonneg_right ht (by omega)
      omega
    · exact h6
  have e1 : x.l + t * (now + W - 1 - x.s) = A + t * W - t := by
    rw [hcap, show now + W - 1 - x.s = (now - x.s) + W - 1 from by omega, Int.mul_sub, Int.mul_add]; omega
  have e2 : x.l + t * (now + W - x.s) = A + t * W := by
    rw [hcap, show now + W - x.s = (now - x.s) + W from by omega, Int.mul_add]; omega
  have a1 : availQ t m x (now + W - 1) = A + t * W - t := by unfold availQ; rw [e1]; split <;> omega
  have a2 : n ≤ availQ t m x (now + W) := by unfold availQ; rw [e2]; split <;> omega
  have g1 : GoodQ t m l who n (now + W - 1) := ⟨four_right hm (by omega) (four_later h (by omega)), by omega, h0⟩
  have g2 : GoodQ t m l who n (now + W) := ⟨four_right hm (by omega) (four_later h (by omega)), by omega, h0⟩
  refine ⟨hW1, hW2, ?_, _, .inr (.inr (.inr (.inr (.inl ⟨g2, h1, ⟨x, hx, a2, rfl⟩, rfl, rfl⟩))))⟩
  refine .inr (.inr (.inr (.inr (.inr ⟨g1, h1, ⟨x, hx, by omega, rfl, ?_⟩, rfl⟩))))
  rw [a1]
  have e3 : n - (A + t * W - t) + t - 1 = (n - A - t * W + t - 1) + t * 1 := by omega
  rw [e3, Int.add_mul_ediv_left _ _ (by omega), Int.ediv_eq_zero_of_lt (by omega) (by omega)]; rfl
end Go.Proofs.Ytbhbilmpkgcmeaa
