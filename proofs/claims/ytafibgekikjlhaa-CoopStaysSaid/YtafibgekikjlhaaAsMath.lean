/- Members: those above 0, each once, rising. Plain mathematics. -/
import Derived.Test.YtafibgekikjlhaaVm
import Derived.Lib.SlicesCompact
namespace Go.Proofs.Ytafibgekikjlhaa.As
open Vm
set_option linter.unusedVariables false

/-- m are those of l that are above 0, each once, rising. -/
def MemIs (l m : List Int) : Prop := m.Pairwise (· < ·) ∧ ∀ x, x ∈ m ↔ x ∈ l ∧ 0 < x
theorem asc_unique : ∀ (a b : List Int), a.Pairwise (· < ·) → b.Pairwise (· < ·) → (∀ x, x ∈ a ↔ x ∈ b) → a = b := by
  intro a
  induction a with
  | nil =>
    intro b _ _ h
    cases b with
    | nil => rfl
    | cons y b => have := (h y).2 (List.mem_cons_self ..); cases this
  | cons x a ih =>
    intro b ha hb h
    cases b with
    | nil => have := (h x).1 (List.mem_cons_self ..); cases this
    | cons y b =>
      obtain ⟨ha1, ha2⟩ := List.pairwise_cons.1 ha
      obtain ⟨hb1, hb2⟩ := List.pairwise_cons.1 hb
      have hxy : x = y := by
        have h1 := (h x).1 (List.mem_cons_self ..)
        have h2 := (h y).2 (List.mem_cons_self ..)
        rcases List.mem_cons.1 h1 with h1 | h1
        · exact h1
        · rcases List.mem_cons.1 h2 with h2 | h2
          · exact h2.symm
          · have := hb1 x h1; have := ha1 y h2; omega
      subst hxy
      congr 1
      refine ih b ha2 hb2 fun z => ⟨fun hz => ?_, fun hz => ?_⟩
      · rcases List.mem_cons.1 ((h z).1 (List.mem_cons_of_mem _ hz)) with h1 | h1
        · have := ha1 z hz; omega
        · exact h1
      · rcases List.mem_cons.1 ((h z).2 (List.mem_cons_of_mem _ hz)) with h1 | h1
        · have := hb1 z hz; omega
        · exact h1
theorem memIs_unique {l a b : List Int} (ha : MemIs l a) (hb : MemIs l b) : a = b :=
  asc_unique a b ha.1 hb.1 fun x => by rw [ha.2, hb.2]
theorem memIs_same {l l' a b : List Int} (ha : MemIs l a) (hb : MemIs l' b) (h : ∀ x, 0 < x → (x ∈ l ↔ x ∈ l')) : a = b :=
  asc_unique a b ha.1 hb.1 fun x => by
    rw [ha.2, hb.2]
    constructor
    · rintro ⟨h1, h2⟩; exact ⟨(h x h2).1 h1, h2⟩
    · rintro ⟨h1, h2⟩; exact ⟨(h x h2).2 h1, h2⟩
theorem memIs_len {l m : List Int} (h : MemIs l m) : m.length ≤ l.length := by
  have hn : m.Nodup := h.1.imp (fun h => by omega)
  exact List.Nodup.length_le_of_subset hn (fun x hx => ((h.2 x).1 hx).1)
theorem compactUpTo_sorted (d : Array Int) (hs : ∀ i j, i ≤ j → j < d.size → d[i]! ≤ d[j]!) : ∀ m, m ≤ d.size → (Lib.compactUpTo d m).Pairwise (· < ·) ∧ ∀ x, x ∈ Lib.compactUpTo d m ↔ ∃ j, j < m ∧ d[j]! = x := by
  intro m
  induction m with
  | zero => intro _; exact ⟨by simp [Lib.compactUpTo], fun x => by simp [Lib.compactUpTo]⟩
  | succ m ih =>
    intro hm
    obtain ⟨h1, h2⟩ := ih (by omega)
    rw [Lib.compactUpTo_succ]
    by_cases hk : Lib.keeps d m = true
    · rw [if_pos hk]
      refine ⟨List.pairwise_append.2 ⟨h1, List.pairwise_singleton _ _, fun a ha b hb => ?_⟩, fun x => ?_⟩
      · rw [List.mem_singleton.1 hb]
        obtain ⟨j, hj, rfl⟩ := (h2 a).1 ha
        have h3 := hs j (m - 1) (by omega) (by omega)
        have h4 := hs (m - 1) m (by omega) (by omega)
        have h5 : d[m]! ≠ d[m - 1]! := by
          intro h
          simp [Lib.keeps, h] at hk
          omega
        omega
      · rw [List.mem_append, List.mem_singleton, h2]
        constructor
        · rintro (⟨j, hj, rfl⟩ | rfl)
          · exact ⟨j, by omega, rfl⟩
          · exact ⟨m, by omega, rfl⟩
        · rintro ⟨j, hj, rfl⟩
          by_cases hjm : j < m
          · exact .inl ⟨j, hjm, rfl⟩
          · exact .inr (by rw [show j = m by omega])
    · rw [if_neg hk, List.append_nil]
      refine ⟨h1, fun x => ?_⟩
      rw [h2]
      have hm0 : 0 < m ∧ d[m]! = d[m - 1]! := by
        simp [Lib.keeps] at hk
        refine ⟨by omega, ?_⟩
        by_cases h : m = 0
        · subst h; rfl
        · first | exact hk.2 | simp_all
      constructor
      · rintro ⟨j, hj, rfl⟩; exact ⟨j, by omega, rfl⟩
      · rintro ⟨j, hj, rfl⟩
        by_cases hjm : j < m
        · exact ⟨j, hjm, rfl⟩
        · exact ⟨m - 1, by omega, by rw [show j = m by omega]; exact hm0.2.symm⟩
/-- What is kept, sorted, each once. -/
def posL (l : List Int) : List Int := l.filter fun x => !decide (x ≤ 0)
theorem mem_posL {l : List Int} {x : Int} : x ∈ posL l ↔ x ∈ l ∧ 0 < x := by
  unfold posL
  rw [List.mem_filter]
  simp
theorem clean_is (l : List Int) : MemIs l (Lib.compact ((posL l).mergeSort fun x y => decide (x ≤ y))) := by
  have hp := List.mergeSort_perm (posL l) (fun x y => decide (x ≤ y))
  have hsort : ((posL l).mergeSort fun x y => decide (x ≤ y)).Pairwise (fun a b => decide (a ≤ b) = true) :=
    List.pairwise_mergeSort (le := fun x y => decide (x ≤ y)) (by intro a b c h1 h2; simp at *; omega) (by intro a b; simp; omega) (posL l)
  generalize (posL l).mergeSort (fun x y => decide (x ≤ y)) = z at hp hsort
  have h := compactUpTo_sorted z.toArray (fun i j hij hj => by
    have hj' : j < z.length := by simpa using hj
    rw [getElem!_pos z.toArray i (by simp; omega), getElem!_pos z.toArray j (by simpa using hj)]
    simp only [List.getElem_toArray]
    by_cases h : i = j
    · subst h; exact Int.le_refl _
    · have := List.pairwise_iff_getElem.1 hsort i j (by omega) hj' (by omega)
      simpa using this) z.length (by simp)
  refine ⟨h.1, fun x => ?_⟩
  unfold Lib.compact
  rw [h.2, ← mem_posL, ← hp.mem_iff]
  constructor
  · rintro ⟨j, hj, rfl⟩
    rw [getElem!_pos z.toArray j (by simpa using hj)]
    simp
  · intro hx
    obtain ⟨j, hj, rfl⟩ := List.mem_iff_getElem.1 hx
    exact ⟨j, hj, by rw [getElem!_pos z.toArray j (by simpa using hj)]; simp⟩
end Go.Proofs.Ytafibgekikjlhaa.As
