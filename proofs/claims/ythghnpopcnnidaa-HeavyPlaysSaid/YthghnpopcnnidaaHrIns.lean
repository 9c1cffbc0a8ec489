/- The document's Top by insertion: plain mathematics. -/
import Derived.Test.YthghnpopcnnidaaHvCp
namespace Go.Proofs.Ythghnpopcnnidaa
open Go.RowKit Vm
set_option linter.unusedVariables false
set_option linter.unusedSimpArgs false

def befT (y x : Ta) : Bool := decide (x.n < y.n) || (y.n == x.n && decide (y.k < x.k))
def leT (a b : Ta) : Prop := b.n < a.n ∨ (b.n = a.n ∧ a.k ≤ b.k)
theorem befT_iff {y x : Ta} : befT y x = true ↔ ¬ leT x y := by
  unfold befT leT
  rw [Bool.or_eq_true, Bool.and_eq_true, decide_eq_true_eq, beq_iff_eq, decide_eq_true_eq]
  omega
theorem befT_le {y x : Ta} (h : befT y x = true) : leT y x := by
  have := befT_iff.1 h
  unfold leT at *
  omega
theorem befT_no {y x : Ta} (h : befT y x = false) : leT x y := by
  apply Classical.byContradiction
  intro hc
  rw [befT_iff.2 hc] at h; cases h
theorem leT_trans {a b c : Ta} (h : leT a b) (h' : leT b c) : leT a c := by
  unfold leT at *; omega
def insT (x : Ta) : List Ta → List Ta
  | [] => [x]
  | y :: r => if befT y x = true then y :: insT x r else x :: y :: r
def insTo (L : List Ta) : Nat → List Ta
  | 0 => []
  | i + 1 => insT (L.getD i ta0) (insTo L i)
theorem insT_perm (x : Ta) : ∀ out, (insT x out).Perm (x :: out)
  | [] => List.Perm.refl _
  | y :: r => by
    unfold insT
    split
    · exact ((insT_perm x r).cons y).trans (List.Perm.swap x y r)
    · exact List.Perm.refl _
theorem insT_len (x : Ta) (out : List Ta) : (insT x out).length = out.length + 1 := (insT_perm x out).length_eq
theorem insTo_len (L : List Ta) : ∀ i, (insTo L i).length = i
  | 0 => rfl
  | i + 1 => by unfold insTo; rw [insT_len, insTo_len L i]
theorem insTo_perm (L : List Ta) : ∀ i, i ≤ L.length → (insTo L i).Perm (L.take i)
  | 0, _ => List.Perm.refl _
  | i + 1, h => by
    unfold insTo
    rw [take_get L ta0 i (by omega)]
    exact (insT_perm _ _).trans (((insTo_perm L i (by omega)).cons _).trans (List.perm_append_singleton _ _).symm)
theorem insT_sorted {x : Ta} : ∀ {out : List Ta}, out.Pairwise leT → (insT x out).Pairwise leT
  | [], _ => by unfold insT; exact List.pairwise_singleton _ _
  | y :: r, h => by
    obtain ⟨h1, h2⟩ := List.pairwise_cons.1 h
    unfold insT
    split
    · next hb =>
      refine List.pairwise_cons.2 ⟨fun z hz => ?_, insT_sorted h2⟩
      rcases List.mem_cons.1 ((insT_perm x r).mem_iff.1 hz) with rfl | hz
      · exact befT_le hb
      · exact h1 z hz
    · next hb =>
      have hx := befT_no (by simpa using hb)
      refine List.pairwise_cons.2 ⟨fun z hz => ?_, h⟩
      rcases List.mem_cons.1 hz with rfl | hz
      · exact hx
      · exact leT_trans hx (h1 z hz)
theorem insTo_sorted (L : List Ta) : ∀ i, (insTo L i).Pairwise leT
  | 0 => List.Pairwise.nil
  | i + 1 => insT_sorted (insTo_sorted L i)
theorem insT_at {x : Ta} : ∀ (out : List Ta) (k : Nat), k ≤ out.length → (∀ p, p < k → befT (out.getD p ta0) x = true) → (k = out.length ∨ befT (out.getD k ta0) x = false) → insT x out = out.take k ++ x :: out.drop k
  | [], k, h, _, _ => by
    obtain rfl : k = 0 := by simpa using h
    rfl
  | y :: r, 0, _, _, h => by
    unfold insT
    rcases h with h | h
    · simp at h
    · rw [if_neg (by rw [show ((y :: r).getD 0 ta0) = y from rfl] at h; rw [h]; decide)]; rfl
  | y :: r, k + 1, hk, h1, h2 => by
    unfold insT
    rw [if_pos (show befT y x = true from h1 0 (by omega)), insT_at r k (by simpa using hk) (fun p hp => by have := h1 (p + 1) (by omega); rwa [show ((y :: r).getD (p + 1) ta0) = r.getD p ta0 from by simp [List.getD]] at this) (by
      rcases h2 with h2 | h2
      · left; simpa using h2
      · right; rwa [show ((y :: r).getD (k + 1) ta0) = r.getD k ta0 from by simp [List.getD]] at h2)]
    rfl
theorem topL_sorted (L : List Ta) : (topL L).Pairwise leT := by
  have hs := (top_sorts L).2
  have hl := topL_len L
  have e : (Go.Sort.pdq (ltOf oftI) L.toArray 0 L.toArray.size (Go.Lib.bitLen L.toArray.size) true true) = (topL L).toArray := by unfold topL; simp
  rw [e] at hs
  generalize topL L = T at *
  rw [List.pairwise_iff_getElem]
  intro i j hi hj hij
  have := hs i j (Nat.zero_le _) hij (by simp; omega)
  rw [oft_less] at this
  simp [hi, hj] at this
  unfold leT
  omega
theorem ins_top {L : List Ta} (hnd : (L.map Ta.k).Nodup) : insTo L L.length = topL L := by
  have h1 := insTo_perm L L.length (Nat.le_refl _)
  rw [List.take_of_length_le (Nat.le_refl _)] at h1
  refine List.Perm.eq_of_pairwise (le := leT) (fun a b ha hb h2 h3 => ?_) (insTo_sorted L _) (topL_sorted L) (h1.trans (topL_perm L).symm)
  have ha := h1.mem_iff.1 ha
  have hb := (topL_perm L).mem_iff.1 hb
  have hk : a.k = b.k := by unfold leT at *; omega
  obtain ⟨i, hi, rfl⟩ := List.mem_iff_getElem.1 ha
  obtain ⟨j, hj, rfl⟩ := List.mem_iff_getElem.1 hb
  by_cases e : i = j
  · subst e; rfl
  · exfalso
    have := keys_ne hnd hi hj e
    rw [show L.getD i ta0 = L[i] from by simp [List.getD, hi], show L.getD j ta0 = L[j] from by simp [List.getD, hj]] at this
    exact this hk
end Go.Proofs.Ythghnpopcnnidaa
