/- Plain mathematics of rows that are in the order of a number of theirs: where one stands, would stand, is put. -/
import GoSem.Claim
namespace Go.Proofs.Ytbhbilmpkgcmeaa
set_option linter.unusedVariables false

section
variable {α : Type} (key : α → Int) (d : α)
/-- Where a number stands, or would. -/
def AtR (l : List α) (b : Int) (i : Nat) : Prop := i ≤ l.length ∧ (∀ p, p < i → key (l.getD p d) < b) ∧ ∀ p, i ≤ p → p < l.length → b ≤ key (l.getD p d)
/-- In order, each once. -/
def AscR (l : List α) : Prop := ∀ p q, p < q → q < l.length → key (l.getD p d) < key (l.getD q d)
/-- A row, put in its place. -/
def putR : List α → α → List α
  | [], x => [x]
  | y :: t, x => if key y < key x then y :: putR t x else if key y = key x then x :: t else x :: y :: t
/-- The row of a number. -/
def getR : List α → Int → Option α
  | [], _ => none
  | y :: t, b => if key y = b then some y else getR t b
theorem atR_cons {x : α} {t : List α} {b : Int} {i : Nat} (h : AtR key d (x :: t) b (i + 1)) : key x < b ∧ AtR key d t b i := by
  obtain ⟨h1, h2, h3⟩ := h
  exact ⟨h2 0 (by omega), by simpa using h1, fun p hp => h2 (p + 1) (by omega), fun p hp hl => h3 (p + 1) (by omega) (by simpa using hl)⟩
theorem putR_new {x : α} : ∀ {l : List α} {i : Nat}, AtR key d l (key x) i → ¬ (i < l.length ∧ key (l.getD i d) = key x) → putR key l x = l.take i ++ [x] ++ l.drop i := by
  intro l
  induction l with
  | nil => intro i h _; obtain rfl : i = 0 := by have := h.1; simp at this; exact this
           rfl
  | cons y t ih =>
    intro i h hn
    cases i with
    | zero =>
      have h3 := h.2.2 0 (by omega) (by simp)
      have hx : ¬ key y = key x := fun e => hn ⟨by simp, e⟩
      have hx2 : ¬ key y < key x := by simp only [List.getD_cons_zero] at h3; omega
      simp [putR, hx, hx2]
    | succ i =>
      obtain ⟨h1, h2⟩ := atR_cons key d h
      rw [putR, if_pos h1, ih h2 (fun hh => hn ⟨by simpa using hh.1, hh.2⟩)]
      simp
theorem putR_old {x : α} : ∀ {l : List α} {i : Nat}, AtR key d l (key x) i → i < l.length → key (l.getD i d) = key x → putR key l x = l.take i ++ [x] ++ l.drop (i + 1) := by
  intro l
  induction l with
  | nil => intro i _ h; cases h
  | cons y t ih =>
    intro i h hl hb
    cases i with
    | zero =>
      simp only [List.getD_cons_zero] at hb
      simp [putR, hb]
    | succ i =>
      obtain ⟨h1, h2⟩ := atR_cons key d h
      rw [putR, if_pos h1, ih h2 (by simpa using hl) hb]
      simp
theorem putR_set {x : α} {l : List α} {i : Nat} (h : AtR key d l (key x) i) (hl : i < l.length) (hb : key (l.getD i d) = key x) : l.set i x = putR key l x := by
  rw [putR_old key d h hl hb, List.set_eq_take_append_cons_drop, if_pos hl]; simp
theorem putR_ins {x y : α} {l : List α} {i : Nat} (h : AtR key d l (key x) i) (hn : ¬ (i < l.length ∧ key (l.getD i d) = key x)) : (l.take i ++ [y] ++ l.drop i).set i x = putR key l x := by
  have hi := h.1
  have h1 : (l.take i).length = i := by rw [List.length_take]; omega
  rw [putR_new key d h hn, List.append_assoc, List.set_append_right _ _ (by omega), h1, Nat.sub_self]
  simp
theorem insR_getD {x : α} {l : List α} {i : Nat} (hi : i ≤ l.length) : (l.take i ++ [x] ++ l.drop i).getD i d = x := by
  have h1 : (l.take i).length = i := by rw [List.length_take]; omega
  rw [List.append_assoc, List.getD_eq_getElem?_getD, List.getElem?_append_right (by omega), h1]
  simp
theorem insR_length {x : α} {l : List α} {i : Nat} (hi : i ≤ l.length) : (l.take i ++ [x] ++ l.drop i).length = l.length + 1 := by simp; omega
theorem atR_of {l : List α} {b : Int} {k : Nat} (hp : AscR key d l) (hk : k ≤ l.length) (h1 : ∀ p, p < k → key (l.getD p d) < b) (h2 : k < l.length → b ≤ key (l.getD k d)) : AtR key d l b k := by
  refine ⟨hk, h1, fun p hp1 hp2 => ?_⟩
  rcases Nat.lt_or_ge k p with h | h
  · have := hp k p h hp2
    have := h2 (by omega)
    omega
  · rw [show p = k from by omega]; exact h2 (by omega)
theorem ascR_step {l : List α} (h : ∀ i, i + 1 < l.length → key (l.getD i d) < key (l.getD (i + 1) d)) : AscR key d l := by
  intro p q hpq hq
  induction q with
  | zero => omega
  | succ q ih =>
    have h1 := h q (by omega)
    rcases Nat.lt_or_ge p q with h2 | h2
    · have := ih h2 (by omega); omega
    · rw [show p = q from by omega]; exact h1
theorem ascR_nil : AscR key d [] := fun p q _ h => by cases h
/-- In order, all above a bound: by recursion. -/
def SrtR : Option Int → List α → Prop
  | _, [] => True
  | lo, x :: t => (∀ y, lo = some y → y < key x) ∧ SrtR (some (key x)) t
theorem srtR_above : ∀ {l : List α} {lo : Int}, SrtR key (some lo) l → ∀ x ∈ l, lo < key x := by
  intro l
  induction l with
  | nil => intro lo _ x hx; cases hx
  | cons y t ih =>
    intro lo h x hx
    have h1 := h.1 lo rfl
    rcases List.mem_cons.1 hx with rfl | hx
    · exact h1
    · have := ih h.2 x hx; omega
theorem srtR_weak {l : List α} {lo lo' : Option Int} (h : SrtR key lo l) (hh : ∀ y, lo' = some y → ∃ z, lo = some z ∧ y ≤ z) : SrtR key lo' l := by
  cases l with
  | nil => trivial
  | cons x t =>
    refine ⟨fun y hy => ?_, h.2⟩
    obtain ⟨z, hz, hyz⟩ := hh y hy
    have := h.1 z hz
    omega
theorem ascR_srt {l : List α} : AscR key d l → SrtR key none l := by
  have key2 : ∀ (l : List α) (lo : Option Int), (∀ y, lo = some y → 0 < l.length → y < key (l.getD 0 d)) → AscR key d l → SrtR key lo l := by
    intro l
    induction l with
    | nil => intro _ _ _; trivial
    | cons x t ih =>
      intro lo hlo h
      refine ⟨fun y hy => hlo y hy (by simp), ih _ (fun y hy h0 => ?_) (fun p q hpq hq => h (p + 1) (q + 1) (by omega) (by simpa using hq))⟩
      injection hy with hy
      have := h 0 1 (by omega) (by simpa using h0)
      simp only [List.getD_cons_zero, List.getD_cons_succ] at this
      omega
  intro h
  exact key2 l none (fun y hy => by cases hy) h
theorem srtR_asc {l : List α} : ∀ {lo : Option Int}, SrtR key lo l → AscR key d l := by
  induction l with
  | nil => intro _ _; exact ascR_nil key d
  | cons x t ih =>
    intro lo h p q hpq hq
    have ht := ih h.2
    cases q with
    | zero => omega
    | succ q =>
      have hq' : q < t.length := by simpa using hq
      cases p with
      | zero =>
        simp only [List.getD_cons_zero, List.getD_cons_succ]
        apply srtR_above key h.2
        simp [List.getD, List.getElem?_eq_getElem hq']
      | succ p =>
        simp only [List.getD_cons_succ]
        exact ht p q (by omega) hq'
theorem putR_srt {x : α} : ∀ {l : List α} {lo : Option Int}, SrtR key lo l → (∀ y, lo = some y → y < key x) → SrtR key lo (putR key l x) := by
  intro l
  induction l with
  | nil => intro lo _ h; exact ⟨h, trivial⟩
  | cons y t ih =>
    intro lo h hx
    rw [putR]
    split
    · next hlt => exact ⟨h.1, ih h.2 (fun z hz => by injection hz with hz; omega)⟩
    · split
      · next he => refine ⟨hx, ?_⟩; rw [← he]; exact h.2
      · next hne => exact ⟨hx, (fun z hz => by injection hz with hz; omega), h.2⟩
theorem putR_mem {x z : α} {l : List α} (h : z ∈ putR key l x) : z = x ∨ z ∈ l := by
  induction l with
  | nil => simp only [putR, List.mem_singleton] at h; exact .inl h
  | cons y t ih =>
    rw [putR] at h
    split at h
    · rcases List.mem_cons.1 h with rfl | h
      · right; simp
      · rcases ih h with h | h
        · exact .inl h
        · right; simp [h]
    · split at h
      · rcases List.mem_cons.1 h with rfl | h
        · exact .inl rfl
        · right; simp [h]
      · rcases List.mem_cons.1 h with rfl | h
        · exact .inl rfl
        · exact .inr h
theorem putR_len (l : List α) (x : α) : (putR key l x).length ≤ l.length + 1 := by
  induction l with
  | nil => simp [putR]
  | cons y t ih => rw [putR]; split; simp; omega; split <;> simp
theorem getR_some {l : List α} {b : Int} {x : α} (h : getR key l b = some x) : x ∈ l ∧ key x = b := by
  induction l with
  | nil => cases h
  | cons y t ih =>
    rw [getR] at h
    split at h
    · next he => injection h with h; subst h; exact ⟨by simp, he⟩
    · obtain ⟨h1, h2⟩ := ih h; exact ⟨by simp [h1], h2⟩
theorem getR_none {l : List α} {b : Int} (h : getR key l b = none) : ∀ x ∈ l, key x ≠ b := by
  induction l with
  | nil => intro x hx; cases hx
  | cons y t ih =>
    rw [getR] at h
    split at h
    · cases h
    · next he =>
      intro x hx
      rcases List.mem_cons.1 hx with rfl | hx
      · exact he
      · exact ih h x hx
theorem getR_none_of {l : List α} {b : Int} (h : ∀ x ∈ l, key x ≠ b) : getR key l b = none := by
  induction l with
  | nil => rfl
  | cons y t ih => rw [getR, if_neg (h y (by simp))]; exact ih (fun x hx => h x (by simp [hx]))
/-- Where it stands it is. -/
theorem getR_at {l : List α} {b : Int} {i : Nat} (h : AtR key d l b i) (hi : i < l.length) (hb : key (l.getD i d) = b) : getR key l b = some (l.getD i d) := by
  induction l generalizing i with
  | nil => cases hi
  | cons y t ih =>
    cases i with
    | zero => simp only [List.getD_cons_zero] at hb ⊢; rw [getR, if_pos hb]
    | succ i =>
      obtain ⟨h1, h2⟩ := atR_cons key d h
      rw [getR, if_neg (by omega), ih h2 (by simpa using hi) (by simpa using hb)]
      simp
theorem getR_at_none {l : List α} {b : Int} {i : Nat} (h : AtR key d l b i) (ha : AscR key d l) (hn : ¬ (i < l.length ∧ key (l.getD i d) = b)) : getR key l b = none := by
  apply getR_none_of
  intro x hx e
  obtain ⟨p, hp, rfl⟩ := List.getElem_of_mem hx
  have e2 : l.getD p d = l[p] := by simp [List.getD, List.getElem?_eq_getElem hp]
  rw [← e2] at e
  rcases Nat.lt_or_ge p i with h1 | h1
  · have := h.2.1 p h1; omega
  · rcases Nat.lt_or_ge i p with h2 | h2
    · have h3 := ha i p h2 hp
      have h4 := h.2.2 i (Nat.le_refl _) (by omega)
      omega
    · obtain rfl : p = i := by omega
      exact hn ⟨hp, e⟩
theorem getR_put (l : List α) (x : α) (b : Int) : ∀ {lo : Option Int}, SrtR key lo l → getR key (putR key l x) b = if key x = b then some x else getR key l b := by
  induction l with
  | nil => intro lo _; simp [putR, getR]
  | cons y t ih =>
    intro lo h
    rw [putR]
    split
    · next hlt =>
      rw [getR, ih h.2]
      by_cases e : key y = b
      · rw [if_pos e, if_neg (by omega), getR, if_pos e]
      · rw [if_neg e]; rw [getR, if_neg e]
    · split
      · next he =>
        rw [getR]
        by_cases e : key x = b
        · rw [if_pos e, if_pos e]
        · rw [if_neg e, if_neg e, getR, if_neg (by omega)]
      · next hne => rw [getR]
/-- At the most so many. -/
theorem getR_len {l : List α} {x : α} {b : Int} (hb : key x = b) : getR key l b = none → (putR key l x).length = l.length + 1 := by
  induction l with
  | nil => intro _; rfl
  | cons y t ih =>
    intro h
    rw [getR] at h
    split at h
    · cases h
    · rw [putR]
      split
      · rw [List.length_cons, ih h, List.length_cons]
      · rw [if_neg (by omega)]; simp
theorem getR_len_old {l : List α} {x y : α} : ∀ {lo : Option Int}, SrtR key lo l → getR key l (key x) = some y → (putR key l x).length = l.length := by
  induction l with
  | nil => intro lo _ h; cases h
  | cons z t ih =>
    intro lo hs h
    rw [getR] at h
    rw [putR]
    split at h
    · next he => rw [if_neg (by omega), if_pos he]; simp
    · next hne =>
      have hz := srtR_above key hs.2 y (getR_some key h).1
      have hy := (getR_some key h).2
      rw [if_pos (by omega), List.length_cons, ih hs.2 h, List.length_cons]
theorem getR_hit {l : List α} {b : Int} : ∀ {k : Nat}, (∀ p, p < k → key (l.getD p d) ≠ b) → k < l.length → key (l.getD k d) = b → getR key l b = some (l.getD k d) := by
  induction l with
  | nil => intro k _ h; cases h
  | cons y t ih =>
    intro k h hk he
    cases k with
    | zero => simp only [List.getD_cons_zero] at he ⊢; rw [getR, if_pos he]
    | succ k =>
      have h0 := h 0 (by omega)
      simp only [List.getD_cons_zero] at h0
      rw [getR, if_neg h0]
      simp only [List.getD_cons_succ] at he ⊢
      exact ih (fun p hp => by have := h (p + 1) (by omega); simpa using this) (by simpa using hk) he
theorem getR_miss {l : List α} {b : Int} (h : ∀ p, p < l.length → key (l.getD p d) ≠ b) : getR key l b = none := by
  apply getR_none_of
  intro x hx
  obtain ⟨p, hp, rfl⟩ := List.getElem_of_mem hx
  have := h p hp
  rwa [show l.getD p d = l[p] by simp [List.getD, List.getElem?_eq_getElem hp]] at this
end
end Go.Proofs.Ytbhbilmpkgcmeaa
