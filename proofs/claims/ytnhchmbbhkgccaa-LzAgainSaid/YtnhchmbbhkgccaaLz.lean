/- Packed texts: their pieces, what they unpack to, what of them is left when they are cut. Plain mathematics. -/
import Derived.Test.YtnhchmbbhkgccaaVm
namespace Go.Proofs.Ytnhchmbbhkgccaa.Lz
open Vm
set_option linter.unusedVariables false

/-- So many bytes more, each the one that stands b ahead of it. -/
def rep (b : Nat) : Nat → List UInt8 → List UInt8
  | 0, t => t
  | m + 1, t => rep b m (t ++ [t.getD (t.length - b) 0])
theorem rep_len (b : Nat) : ∀ (m : Nat) (t : List UInt8), (rep b m t).length = t.length + m := by
  intro m
  induction m with
  | zero => intro t; rfl
  | succ m ih => intro t; rw [rep, ih]; simp; omega
theorem rep_pre (b : Nat) : ∀ (m : Nat) (t : List UInt8), ∃ u, rep b m t = t ++ u := by
  intro m
  induction m with
  | zero => intro t; exact ⟨[], by simp [rep]⟩
  | succ m ih =>
    intro t
    obtain ⟨u, hu⟩ := ih (t ++ [t.getD (t.length - b) 0])
    exact ⟨_ :: u, by rw [rep, hu, List.append_assoc]; rfl⟩
theorem rep_snoc (b : Nat) : ∀ (m : Nat) (t : List UInt8), rep b (m + 1) t = rep b m t ++ [(rep b m t).getD ((rep b m t).length - b) 0] := by
  intro m
  induction m with
  | zero => intro t; rfl
  | succ m ih => intro t; rw [rep, ih]; rfl
/-- A piece behind a text, whatever room there is. -/
def pieceL (t s : List UInt8) : Option (List UInt8 × List UInt8) :=
  match takeL s with
  | none => none
  | some (n, r) =>
    if n < 1 then none else
    if n % 2 = 0 then
      if (n / 2).toNat ≤ r.length then some (t ++ r.take (n / 2).toNat, r.drop (n / 2).toNat) else none
    else match takeL r with
      | none => none
      | some (b, r') => if 1 ≤ b ∧ b ≤ 4096 ∧ b ≤ (t.length : Int) then some (rep b.toNat ((n / 2).toNat + 4) t, r') else none
theorem takeL_nil : takeL [] = none := by rfl
/-- What a piece is. -/
theorem piece_cases {t s t1 s1 : List UInt8} (h : pieceL t s = some (t1, s1)) :
    (∃ m : Nat, 1 ≤ m ∧ I64 (2 * (m : Int)) ∧ ∃ x, x.length = m ∧ s = putL (2 * (m : Int)) ++ (x ++ s1) ∧ t1 = t ++ x) ∨
    (∃ (m b : Nat), I64 (2 * (m : Int) + 1) ∧ 1 ≤ b ∧ b ≤ 4096 ∧ b ≤ t.length ∧ s = putL (2 * (m : Int) + 1) ++ (putL (b : Int) ++ s1) ∧ t1 = rep b (m + 4) t) := by
  unfold pieceL at h
  cases e : takeL s with
  | none => rw [e] at h; cases h
  | some p =>
    obtain ⟨n, r⟩ := p
    rw [e] at h
    simp only at h
    obtain ⟨hn, hs⟩ := takeL_some e
    by_cases h1 : n < 1
    · rw [if_pos h1] at h; cases h
    rw [if_neg h1] at h
    by_cases h2 : n % 2 = 0
    · rw [if_pos h2] at h
      by_cases h3 : (n / 2).toNat ≤ r.length
      · rw [if_pos h3] at h
        injection h with h
        injection h with h4 h5
        refine .inl ⟨(n / 2).toNat, by omega, ?_, r.take (n / 2).toNat, by rw [List.length_take]; omega, ?_, h4.symm⟩
        · rw [show 2 * (((n / 2).toNat : Nat) : Int) = n by omega]; exact hn
        · rw [show 2 * (((n / 2).toNat : Nat) : Int) = n by omega, ← h5, List.take_append_drop]; exact hs
      · rw [if_neg h3] at h; cases h
    · rw [if_neg h2] at h
      cases e2 : takeL r with
      | none => rw [e2] at h; cases h
      | some q =>
        obtain ⟨b, r'⟩ := q
        rw [e2] at h
        simp only at h
        obtain ⟨_, hr⟩ := takeL_some e2
        by_cases h3 : 1 ≤ b ∧ b ≤ 4096 ∧ b ≤ (t.length : Int)
        · rw [if_pos h3] at h
          injection h with h
          injection h with h4 h5
          subst h5
          refine .inr ⟨(n / 2).toNat, b.toNat, ?_, by omega, by omega, by omega, ?_, h4.symm⟩
          · rw [show 2 * (((n / 2).toNat : Nat) : Int) + 1 = n by omega]; exact hn
          · rw [show 2 * (((n / 2).toNat : Nat) : Int) + 1 = n by omega, show ((b.toNat : Nat) : Int) = b by omega, ← hr]; exact hs
        · rw [if_neg h3] at h; cases h
theorem piece_plain {t x z : List UInt8} {m : Nat} (h1 : 1 ≤ m) (hi : I64 (2 * (m : Int))) (hx : x.length = m) : pieceL t (putL (2 * (m : Int)) ++ (x ++ z)) = some (t ++ x, z) := by
  unfold pieceL
  rw [takeL_put hi]
  simp only
  rw [if_neg (by omega), if_pos (by omega), show (2 * (m : Int) / 2).toNat = m by omega, if_pos (by rw [List.length_append]; omega), List.take_left' hx, List.drop_left' hx]
theorem piece_again {t z : List UInt8} {m b : Nat} (hi : I64 (2 * (m : Int) + 1)) (h1 : 1 ≤ b) (h2 : b ≤ 4096) (h3 : b ≤ t.length) : pieceL t (putL (2 * (m : Int) + 1) ++ (putL (b : Int) ++ z)) = some (rep b (m + 4) t, z) := by
  unfold pieceL
  rw [takeL_put hi]
  simp only
  rw [if_neg (by omega), if_neg (by omega), takeL_put (by unfold I64; omega)]
  simp only
  rw [if_pos (by omega), show ((2 * (m : Int) + 1) / 2).toNat = m by omega]; rfl
theorem piece_nil (t : List UInt8) : pieceL t [] = none := by unfold pieceL; rw [takeL_nil]
theorem piece_grow {t s t1 s1 : List UInt8} (h : pieceL t s = some (t1, s1)) : s1.length < s.length ∧ t.length < t1.length ∧ ∃ u, t1 = t ++ u := by
  rcases piece_cases h with ⟨m, h1, hi, x, hx, rfl, rfl⟩ | ⟨m, b, hi, h1, h2, h3, rfl, rfl⟩
  · have := putL_pos (2 * (m : Int))
    exact ⟨by simp only [List.length_append]; omega, by simp only [List.length_append]; omega, _, rfl⟩
  · have := putL_pos (2 * (m : Int) + 1)
    exact ⟨by simp only [List.length_append]; omega, by rw [rep_len]; omega, rep_pre b _ t⟩
/-- A piece's own bytes. -/
theorem piece_split {t s t1 s1 : List UInt8} (h : pieceL t s = some (t1, s1)) :
    ∃ hd, s = hd ++ s1 ∧ 0 < hd.length ∧ (∀ z, pieceL t (hd ++ z) = some (t1, z)) ∧ ∀ k, k < hd.length → pieceL t (hd.take k) = none := by
  rcases piece_cases h with ⟨m, h1, hi, x, hx, rfl, rfl⟩ | ⟨m, b, hi, h1, h2, h3, rfl, rfl⟩
  · have hp := putL_pos (2 * (m : Int))
    refine ⟨putL (2 * (m : Int)) ++ x, by rw [List.append_assoc], by rw [List.length_append]; omega, fun z => by rw [List.append_assoc]; exact piece_plain h1 hi hx, fun k hk => ?_⟩
    rw [List.length_append] at hk
    by_cases hk2 : k < (putL (2 * (m : Int))).length
    · rw [List.take_append_of_le_length (by omega)]
      unfold pieceL
      rw [takeL_short k hk2]
    · rw [show k = (putL (2 * (m : Int))).length + (k - (putL (2 * (m : Int))).length) by omega, List.take_length_add_append]
      unfold pieceL
      rw [takeL_put hi]
      simp only
      rw [if_neg (by omega), if_pos (by omega), if_neg (by rw [List.length_take]; omega)]
  · have hp := putL_pos (2 * (m : Int) + 1)
    refine ⟨putL (2 * (m : Int) + 1) ++ putL (b : Int), by rw [List.append_assoc], by rw [List.length_append]; omega, fun z => by rw [List.append_assoc]; exact piece_again hi h1 h2 h3, fun k hk => ?_⟩
    rw [List.length_append] at hk
    by_cases hk2 : k < (putL (2 * (m : Int) + 1)).length
    · rw [List.take_append_of_le_length (by omega)]
      unfold pieceL
      rw [takeL_short k hk2]
    · rw [show k = (putL (2 * (m : Int) + 1)).length + (k - (putL (2 * (m : Int) + 1)).length) by omega, List.take_length_add_append]
      unfold pieceL
      rw [takeL_put hi]
      simp only
      rw [if_neg (by omega), if_neg (by omega), takeL_short _ (by omega)]
/-- What a packed text unpacks to, behind a text. -/
inductive U : List UInt8 → List UInt8 → List UInt8 → Prop
  | nil (t) : U t [] t
  | step {t s t1 s1 t'} : pieceL t s = some (t1, s1) → U t1 s1 t' → U t s t'
theorem U.grow {t s t' : List UInt8} (h : U t s t') : t.length ≤ t'.length ∧ ∃ u, t' = t ++ u := by
  induction h with
  | nil t => exact ⟨Nat.le_refl _, [], by simp⟩
  | step hp _ ih =>
    obtain ⟨_, h1, u, rfl⟩ := piece_grow hp
    obtain ⟨h2, v, rfl⟩ := ih
    exact ⟨by omega, u ++ v, by rw [List.append_assoc]⟩
theorem U.app {t s t1 : List UInt8} (h : U t s t1) : ∀ {z t2}, U t1 z t2 → U t (s ++ z) t2 := by
  induction h with
  | nil t => intro z t2 h2; exact h2
  | step hp _ ih =>
    intro z t2 h2
    obtain ⟨hd, rfl, _, hz, _⟩ := piece_split hp
    rw [List.append_assoc]
    exact .step (hz _) (ih h2)
theorem U.fun {t s t1 t2 : List UInt8} (h : U t s t1) (h' : U t s t2) : t1 = t2 := by
  induction h with
  | nil t =>
    cases h' with
    | nil => rfl
    | step hp _ => rw [piece_nil] at hp; cases hp
  | step hp _ ih =>
    cases h' with
    | nil => rw [piece_nil] at hp; cases hp
    | step hp' h2 =>
      rw [hp] at hp'
      injection hp' with e
      injection e with e1 e2
      subst e1 e2
      exact ih h2
/-- A packed text that is cut off. -/
theorem U.cut {t s t' : List UInt8} (h : U t s t') : ∀ k, k < s.length → (∃ t'' u, U t (s.take k) t'' ∧ u ≠ [] ∧ t' = t'' ++ u) ∨ ∀ t'', ¬ U t (s.take k) t'' := by
  induction h with
  | nil t => intro k hk; simp at hk
  | @step t s t1 s1 t' hp hu ih =>
    intro k hk
    obtain ⟨_, hlt, u, rfl⟩ := piece_grow hp
    obtain ⟨hd, rfl, h0, hz, hs⟩ := piece_split hp
    rw [List.length_append] at hk
    by_cases hk2 : k < hd.length
    · rw [List.take_append_of_le_length (by omega)]
      by_cases hk0 : k = 0
      · subst hk0
        obtain ⟨_, v, rfl⟩ := hu.grow
        refine .inl ⟨t, u ++ v, .nil t, fun h => ?_, by rw [List.append_assoc]⟩
        have := congrArg List.length h
        simp only [List.length_append, List.length_nil] at this hlt
        omega
      · refine .inr fun t'' hh => ?_
        generalize e : hd.take k = q at hh
        cases hh with
        | nil =>
          have := congrArg List.length e
          rw [List.length_take, List.length_nil] at this
          omega
        | step hp' _ => rw [← e, hs k hk2] at hp'; cases hp'
    · rw [show k = hd.length + (k - hd.length) by omega, List.take_length_add_append]
      rcases ih (k - hd.length) (by omega) with ⟨t'', v, h1, h2, h3⟩ | h1
      · exact .inl ⟨t'', v, .step (hz _) h1, h2, h3⟩
      · refine .inr fun t'' hh => ?_
        generalize e : hd ++ s1.take (k - hd.length) = q at hh
        cases hh with
        | nil =>
          have := congrArg List.length e
          rw [List.length_append, List.length_nil] at this
          omega
        | step hp' h2 =>
          rw [← e, hz] at hp'
          injection hp' with e2
          injection e2 with e3 e4
          subst e3 e4
          exact h1 _ h2
/-- Unpacking, with room for so many bytes. -/
def un (most : Nat) (t s : List UInt8) : Option (List UInt8) :=
  if s = [] then some t else
  match h : pieceL t s with
  | none => none
  | some (t', s') => if t'.length ≤ most then un most t' s' else none
termination_by s.length
decreasing_by exact (piece_grow h).1
theorem un_nil (most : Nat) (t : List UInt8) : un most t [] = some t := by rw [un, if_pos rfl]
theorem un_none {most : Nat} {t s : List UInt8} (hs : s ≠ []) (h : pieceL t s = none) : un most t s = none := by
  rw [un, if_neg hs]
  split
  · rfl
  · next e => rw [h] at e; cases e
theorem un_big {most : Nat} {t s t' s' : List UInt8} (h : pieceL t s = some (t', s')) (hb : most < t'.length) : un most t s = none := by
  have hs : s ≠ [] := fun e => by rw [e, piece_nil] at h; cases h
  rw [un, if_neg hs]
  split
  · rfl
  · next e =>
    rw [h] at e
    injection e with e
    injection e with e1 e2
    subst e1
    rw [if_neg (by omega)]
theorem un_step {most : Nat} {t s t' s' : List UInt8} (h : pieceL t s = some (t', s')) (hb : t'.length ≤ most) : un most t s = un most t' s' := by
  have hs : s ≠ [] := fun e => by rw [e, piece_nil] at h; cases h
  rw [un, if_neg hs]
  split
  · next e => rw [h] at e; cases e
  · next e =>
    rw [h] at e
    injection e with e
    injection e with e1 e2
    subst e1 e2
    rw [if_pos hb]
theorem un_of_U {most : Nat} {t s t' : List UInt8} (h : U t s t') (hl : t'.length ≤ most) : un most t s = some t' := by
  induction h with
  | nil t => exact un_nil most t
  | step hp hu ih =>
    have := hu.grow.1
    rw [un_step hp (by omega)]
    exact ih hl
theorem un_of_big {most : Nat} {t s t' : List UInt8} (h : U t s t') (hl : most < t'.length) (ht : t.length ≤ most) : un most t s = none := by
  induction h with
  | nil t => omega
  | @step t s t1 s1 t' hp hu ih =>
    by_cases hb : t1.length ≤ most
    · rw [un_step hp hb]; exact ih hl hb
    · exact un_big hp (by omega)
theorem U_of_un {most : Nat} (n : Nat) : ∀ {t s t' : List UInt8}, s.length ≤ n → un most t s = some t' → U t s t' ∧ (t.length ≤ most → t'.length ≤ most) := by
  induction n with
  | zero =>
    intro t s t' hn h
    obtain rfl : s = [] := List.eq_nil_of_length_eq_zero (by omega)
    rw [un_nil] at h
    injection h with h
    subst h
    exact ⟨.nil _, fun h => h⟩
  | succ n ih =>
    intro t s t' hn h
    by_cases hs : s = []
    · subst hs
      rw [un_nil] at h
      injection h with h
      subst h
      exact ⟨.nil _, fun h => h⟩
    cases hp : pieceL t s with
    | none => rw [un_none hs hp] at h; cases h
    | some p =>
      obtain ⟨t1, s1⟩ := p
      by_cases hb : t1.length ≤ most
      · rw [un_step hp hb] at h
        have := (piece_grow hp).1
        obtain ⟨h1, h2⟩ := ih (by omega) h
        exact ⟨.step hp h1, fun _ => h2 hb⟩
      · rw [un_big hp (by omega)] at h; cases h
/-- What is cut off unpacks to nothing, or to a beginning. -/
theorem un_cut {most : Nat} {s t' : List UInt8} (h : U [] s t') (hm : t'.length ≤ most) (k : Nat) (hk : k < s.length) :
    un most [] (s.take k) = none ∨ ∃ t'' u, un most [] (s.take k) = some t'' ∧ u ≠ [] ∧ t' = t'' ++ u := by
  rcases h.cut k hk with ⟨t'', u, h1, h2, h3⟩ | h1
  · refine .inr ⟨t'', u, un_of_U h1 ?_, h2, h3⟩
    rw [h3, List.length_append] at hm; omega
  · cases e : un most [] (s.take k) with
    | none => exact .inl rfl
    | some x => exact absurd (U_of_un _ (Nat.le_refl _) e).1 (h1 x)
/-- The piece of bytes as they are; of bytes that came before. -/
def plainP (x : List UInt8) : List UInt8 := if x = [] then [] else putL (2 * (x.length : Int)) ++ x
def againP (n b : Nat) : List UInt8 := putL (2 * ((n : Int) - 4) + 1) ++ putL (b : Int)
theorem U_plain (t x : List UInt8) (hx : x.length ≤ 4611686018427387903) : U t (plainP x) (t ++ x) := by
  unfold plainP
  by_cases h : x = []
  · rw [if_pos h, h, List.append_nil]; exact .nil t
  · rw [if_neg h]
    have h0 : 0 < x.length := List.length_pos_iff.2 h
    have := piece_plain (t := t) (x := x) (z := []) (m := x.length) h0 (by unfold I64; omega) rfl
    rw [List.append_nil] at this
    exact .step this (.nil _)
theorem U_again (t : List UInt8) (n b : Nat) (hn : 4 ≤ n) (hn2 : n ≤ 4611686018427387903) (h1 : 1 ≤ b) (h2 : b ≤ 4096) (h3 : b ≤ t.length) : U t (againP n b) (rep b n t) := by
  unfold againP
  have e : 2 * ((n : Int) - 4) + 1 = 2 * ((n - 4 : Nat) : Int) + 1 := by omega
  have := piece_again (t := t) (z := []) (m := n - 4) (b := b) (by unfold I64; omega) h1 h2 h3
  rw [List.append_nil, show n - 4 + 4 = n by omega] at this
  rw [e]
  exact .step this (.nil _)
theorem put_len_nat (k B : Nat) (hB : B = 128 ^ (k + 1)) (n : Int) (h0 : 0 ≤ n) (h : 2 * n < (B : Int)) : (putL n).length ≤ k + 1 := by
  unfold putL
  refine enc_len_le k _ ?_
  rw [← hB]
  unfold zig
  rw [if_neg (by omega)]
  omega
theorem plain_len (x : List UInt8) (hx : x.length ≤ 1048576) : (plainP x).length ≤ x.length + 4 := by
  unfold plainP
  by_cases h : x = []
  · rw [if_pos h]; simp
  · rw [if_neg h, List.length_append]
    have := put_len_nat 3 268435456 (by decide) (2 * (x.length : Int)) (by omega) (by omega)
    omega
theorem again_len (n b : Nat) (hn : 4 ≤ n) (hn2 : n ≤ 1048576) (hb : b ≤ 4096) : (againP n b).length ≤ 6 := by
  unfold againP
  rw [List.length_append]
  have h1 := put_len_nat 3 268435456 (by decide) (2 * ((n : Int) - 4) + 1) (by omega) (by omega)
  have h2 := put_len_nat 1 16384 (by decide) (b : Int) (by omega) (by omega)
  omega
theorem again_worth (n b : Nat) (hn : 8 ≤ n) (hn2 : n ≤ 1048576) (hb : b ≤ 4096) : (againP n b).length + 4 ≤ n := by
  by_cases h : n ≤ 35
  · unfold againP
    rw [List.length_append]
    have h1 := put_len_nat 0 128 (by decide) (2 * ((n : Int) - 4) + 1) (by omega) (by omega)
    have h2 := put_len_nat 1 16384 (by decide) (b : Int) (by omega) (by omega)
    omega
  · have := again_len n b (by omega) hn2 hb
    omega
/-- What is the same so far back is said by the pieces of what came before. -/
theorem rep_take (B : List UInt8) (b : Nat) : ∀ (n i : Nat), 1 ≤ b → b ≤ i → i + n ≤ B.length → (∀ j, j < n → B.getD (i - b + j) 0 = B.getD (i + j) 0) → rep b n (B.take i) = B.take (i + n) := by
  intro n
  induction n with
  | zero => intro i _ _ _ _; rfl
  | succ n ih =>
    intro i hb hi hl h
    have e : B.take i ++ [(B.take i).getD ((B.take i).length - b) 0] = B.take (i + 1) := by
      have h0 := h 0 (by omega)
      simp only [Nat.add_zero] at h0
      rw [List.length_take, Nat.min_eq_left (by omega), List.take_succ_eq_append_getElem (by omega)]
      congr 1
      have h1 : (B.take i).getD (i - b) 0 = B.getD (i - b) 0 := by simp [List.getD, show i - b < i by omega]
      rw [h1, h0]
      simp [List.getD, show i < B.length by omega]
    rw [rep, e, ih (i + 1) hb (by omega) (by omega) (fun j hj => ?_)]
    · rw [show i + 1 + n = i + (n + 1) by omega]
    · have := h (j + 1) (by omega)
      rw [show i + 1 - b + j = i - b + (j + 1) by omega, show i + 1 + j = i + (j + 1) by omega]
      exact this
end Go.Proofs.Ytnhchmbbhkgccaa.Lz
