/- Plain mathematics of chapter 15: what numbers come to. No program is imported. -/
import Derived.Test.YtnjojbanbcahnaaVm
namespace Go.Proofs.Ytnjojbanbcahnaa.Fo
open Vm
set_option linter.unusedVariables false

def Top : Int := 9223372036854775807
def Bot : Int := -9223372036854775808
/-- A sum that stays at the ends. -/
def sat (a b : Int) : Int := if Top < a + b then Top else if a + b < Bot then Bot else a + b
theorem sat_in {a b : Int} (h1 : Bot ≤ a + b) (h2 : a + b ≤ Top) : sat a b = a + b := by unfold sat; rw [if_neg (by omega), if_neg (by omega)]
theorem sat_i64 (a b : Int) : I64 (sat a b) := by
  unfold I64 sat
  split
  · unfold Top; omega
  · split
    · unfold Bot; omega
    · unfold Top Bot at *; omega

structure Ag where
  count : Int
  sum : Int
  min : Int
  max : Int
  h0 : Int
  h1 : Int
  h2 : Int
  h3 : Int
  re : Int
  im : Int
def zeroA : Ag := ⟨0, 0, 0, 0, 0, 0, 0, 0, 0, 0⟩
def srt (v : Int) : Nat := if v < 0 then 0 else if v < 10 then 1 else if v < 100 then 2 else 3
theorem srt_lt (v : Int) : srt v < 4 := by
  unfold srt
  split
  · omega
  · split
    · omega
    · split <;> omega
def bump (k j : Nat) (x : Int) : Int := if k = j then sat x 1 else x
/-- The turn of v quarters: its two parts. -/
def tre (v : Int) : Int := if v % 4 = 0 then 1 else if v % 4 = 2 then -1 else 0
def tim (v : Int) : Int := if v % 4 = 1 then 1 else if v % 4 = 3 then -1 else 0
def addA (a : Ag) (v : Int) : Ag :=
  { count := sat a.count 1, sum := sat a.sum v
    min := if a.count = 0 then v else if v < a.min then v else a.min
    max := if a.count = 0 then v else if a.max < v then v else a.max
    h0 := bump (srt v) 0 a.h0, h1 := bump (srt v) 1 a.h1, h2 := bump (srt v) 2 a.h2, h3 := bump (srt v) 3 a.h3
    re := sat a.re (tre v), im := sat a.im (tim v) }
def allA (l : List Int) : Ag := l.foldl addA zeroA
theorem allA_snoc (l : List Int) (v : Int) : allA (l ++ [v]) = addA (allA l) v := by simp [allA]
structure AgWf (a : Ag) : Prop where
  c : I64 a.count
  s : I64 a.sum
  mi : I64 a.min
  ma : I64 a.max
  w0 : I64 a.h0
  w1 : I64 a.h1
  w2 : I64 a.h2
  w3 : I64 a.h3
  r : I64 a.re
  i : I64 a.im
theorem i64_zero : I64 0 := by unfold I64; omega
theorem zeroA_wf : AgWf zeroA := ⟨i64_zero, i64_zero, i64_zero, i64_zero, i64_zero, i64_zero, i64_zero, i64_zero, i64_zero, i64_zero⟩
theorem bump_i64 {k j : Nat} {x : Int} (h : I64 x) : I64 (bump k j x) := by unfold bump; split; exact sat_i64 _ _; exact h
theorem addA_wf {a : Ag} {v : Int} (h : AgWf a) (hv : I64 v) : AgWf (addA a v) := by
  refine ⟨sat_i64 _ _, sat_i64 _ _, ?_, ?_, bump_i64 h.w0, bump_i64 h.w1, bump_i64 h.w2, bump_i64 h.w3, sat_i64 _ _, sat_i64 _ _⟩
  · show I64 (if a.count = 0 then v else if v < a.min then v else a.min)
    repeat' split
    · exact hv
    · exact hv
    · exact h.mi
  · show I64 (if a.count = 0 then v else if a.max < v then v else a.max)
    repeat' split
    · exact hv
    · exact hv
    · exact h.ma
theorem foldA_wf (l : List Int) : ∀ a, AgWf a → (∀ v ∈ l, I64 v) → AgWf (l.foldl addA a) := by
  induction l with
  | nil => intro a h _; exact h
  | cons v l ih => intro a h hv; exact ih _ (addA_wf h (hv v (by simp))) (fun x hx => hv x (by simp [hx]))
theorem allA_wf {l : List Int} (h : ∀ v ∈ l, I64 v) : AgWf (allA l) := foldA_wf l _ zeroA_wf h

def cnt (p : Int → Bool) (l : List Int) : Int := (l.countP p : Nat)
theorem cnt_snoc (p : Int → Bool) (l : List Int) (v : Int) : cnt p (l ++ [v]) = cnt p l + (if p v then 1 else 0) := by
  unfold cnt; rw [List.countP_append]; cases h : p v <;> simp [h]
theorem cnt_le (p : Int → Bool) (l : List Int) : 0 ≤ cnt p l ∧ cnt p l ≤ (l.length : Int) := by
  unfold cnt; have := List.countP_le_length (p := p) (l := l); omega
theorem cnt_perm {p : Int → Bool} {l m : List Int} (h : l.Perm m) : cnt p l = cnt p m := by unfold cnt; rw [h.countP_eq]
/-- What so many numbers come to. -/
structure Inv (a : Ag) (l : List Int) : Prop where
  count : a.count = (l.length : Int)
  h0 : a.h0 = cnt (fun v => srt v == 0) l
  h1 : a.h1 = cnt (fun v => srt v == 1) l
  h2 : a.h2 = cnt (fun v => srt v == 2) l
  h3 : a.h3 = cnt (fun v => srt v == 3) l
  re : a.re = cnt (fun v => v % 4 == 0) l - cnt (fun v => v % 4 == 2) l
  im : a.im = cnt (fun v => v % 4 == 1) l - cnt (fun v => v % 4 == 3) l
  none : l = [] → a.min = 0 ∧ a.max = 0
  min : l ≠ [] → a.min ∈ l ∧ ∀ x ∈ l, a.min ≤ x
  max : l ≠ [] → a.max ∈ l ∧ ∀ x ∈ l, x ≤ a.max
theorem Inv.zero : Inv zeroA [] := ⟨rfl, rfl, rfl, rfl, rfl, rfl, rfl, fun _ => ⟨rfl, rfl⟩, fun h => absurd rfl h, fun h => absurd rfl h⟩
theorem bump_cnt {l : List Int} {v x : Int} {j : Nat} (hl : l.length ≤ 1000000) (hx : x = cnt (fun u => srt u == j) l) : bump (srt v) j x = cnt (fun u => srt u == j) (l ++ [v]) := by
  rw [cnt_snoc]
  have := cnt_le (fun u => srt u == j) l
  unfold bump
  by_cases h : srt v = j
  · rw [if_pos h, sat_in (by unfold Bot; omega) (by unfold Top; omega), hx]; simp [h]
  · rw [if_neg h, hx]; simp [h]
theorem Inv.add {a : Ag} {l : List Int} {v : Int} (h : Inv a l) (hl : l.length ≤ 1000000) : Inv (addA a v) (l ++ [v]) := by
  have hc := h.count
  have hp : ∀ p, 0 ≤ cnt p l ∧ cnt p l ≤ (l.length : Int) := fun p => cnt_le p l
  refine ⟨?_, bump_cnt hl h.h0, bump_cnt hl h.h1, bump_cnt hl h.h2, bump_cnt hl h.h3, ?_, ?_, fun e => by simp at e, fun _ => ?_, fun _ => ?_⟩
  · show sat a.count 1 = _
    rw [sat_in (by unfold Bot; omega) (by unfold Top; omega), hc, List.length_append]; simp
  · show sat a.re (tre v) = _
    have h0 := hp (fun v => v % 4 == 0)
    have h2 := hp (fun v => v % 4 == 2)
    rw [h.re, cnt_snoc, cnt_snoc]
    have e4 : v % 4 = 0 ∨ v % 4 = 1 ∨ v % 4 = 2 ∨ v % 4 = 3 := by omega
    rcases e4 with e | e | e | e <;> simp [tre, e] <;> (rw [sat_in (by unfold Bot; omega) (by unfold Top; omega)]; try omega)
  · show sat a.im (tim v) = _
    have h0 := hp (fun v => v % 4 == 1)
    have h2 := hp (fun v => v % 4 == 3)
    rw [h.im, cnt_snoc, cnt_snoc]
    have e4 : v % 4 = 0 ∨ v % 4 = 1 ∨ v % 4 = 2 ∨ v % 4 = 3 := by omega
    rcases e4 with e | e | e | e <;> simp [tim, e] <;> (rw [sat_in (by unfold Bot; omega) (by unfold Top; omega)]; try omega)
  · show (if a.count = 0 then v else if v < a.min then v else a.min) ∈ l ++ [v] ∧ ∀ x ∈ l ++ [v], (if a.count = 0 then v else if v < a.min then v else a.min) ≤ x
    by_cases h0 : a.count = 0
    · have : l = [] := List.length_eq_zero_iff.1 (by omega)
      subst this
      rw [if_pos h0]; simp
    · rw [if_neg h0]
      have hne : l ≠ [] := by rintro rfl; exact h0 hc
      obtain ⟨m1, m2⟩ := h.min hne
      split
      · refine ⟨by simp, fun x hx => ?_⟩
        rcases List.mem_append.1 hx with hx | hx
        · have := m2 x hx; omega
        · rw [List.mem_singleton.1 hx]; exact Int.le_refl _
      · refine ⟨by simp [m1], fun x hx => ?_⟩
        rcases List.mem_append.1 hx with hx | hx
        · exact m2 x hx
        · rw [List.mem_singleton.1 hx]; omega
  · show (if a.count = 0 then v else if a.max < v then v else a.max) ∈ l ++ [v] ∧ ∀ x ∈ l ++ [v], x ≤ (if a.count = 0 then v else if a.max < v then v else a.max)
    by_cases h0 : a.count = 0
    · have : l = [] := List.length_eq_zero_iff.1 (by omega)
      subst this
      rw [if_pos h0]; simp
    · rw [if_neg h0]
      have hne : l ≠ [] := by rintro rfl; exact h0 hc
      obtain ⟨m1, m2⟩ := h.max hne
      split
      · refine ⟨by simp, fun x hx => ?_⟩
        rcases List.mem_append.1 hx with hx | hx
        · have := m2 x hx; omega
        · rw [List.mem_singleton.1 hx]; exact Int.le_refl _
      · refine ⟨by simp [m1], fun x hx => ?_⟩
        rcases List.mem_append.1 hx with hx | hx
        · exact m2 x hx
        · rw [List.mem_singleton.1 hx]; omega
theorem Inv.fold (r : List Int) : ∀ (a : Ag) (l : List Int), Inv a l → (l ++ r).length ≤ 1000000 → Inv (r.foldl addA a) (l ++ r) := by
  induction r with
  | nil => intro a l h _; simpa using h
  | cons v r ih =>
    intro a l h hl
    rw [List.length_append, List.length_cons] at hl
    have := ih (addA a v) (l ++ [v]) (h.add (by omega)) (by rw [List.length_append, List.length_append]; simp; omega)
    simpa using this
theorem inv_all {l : List Int} (h : l.length ≤ 1000000) : Inv (allA l) l := by
  have := Inv.zero.fold l _ _ (by simpa using h)
  rw [List.nil_append] at this
  exact this
/-- But for the sum, what numbers come to does not hang on their order. -/
theorem order {l m : List Int} (hp : l.Perm m) (h : l.length ≤ 1000000) : (allA l).count = (allA m).count ∧ (allA l).min = (allA m).min ∧ (allA l).max = (allA m).max ∧ (allA l).h0 = (allA m).h0 ∧ (allA l).h1 = (allA m).h1 ∧ (allA l).h2 = (allA m).h2 ∧ (allA l).h3 = (allA m).h3 ∧ (allA l).re = (allA m).re ∧ (allA l).im = (allA m).im := by
  have i := inv_all h
  have j := inv_all (l := m) (by rw [← hp.length_eq]; exact h)
  have emin : (allA l).min = (allA m).min := by
    by_cases hn : l = []
    · subst hn; have := List.Perm.nil_eq hp; subst this; rfl
    · have hm : m ≠ [] := by rintro rfl; exact hn (List.Perm.eq_nil hp)
      have a1 := (i.min hn).2 _ (hp.symm.subset (j.min hm).1)
      have a2 := (j.min hm).2 _ (hp.subset (i.min hn).1)
      omega
  have emax : (allA l).max = (allA m).max := by
    by_cases hn : l = []
    · subst hn; have := List.Perm.nil_eq hp; subst this; rfl
    · have hm : m ≠ [] := by rintro rfl; exact hn (List.Perm.eq_nil hp)
      have a1 := (i.max hn).2 _ (hp.symm.subset (j.max hm).1)
      have a2 := (j.max hm).2 _ (hp.subset (i.max hn).1)
      omega
  have e1 : (allA l).count = (allA m).count := by rw [i.count, j.count, hp.length_eq]
  have e2 : (allA l).h0 = (allA m).h0 := by rw [i.h0, j.h0, cnt_perm hp]
  have e3 : (allA l).h1 = (allA m).h1 := by rw [i.h1, j.h1, cnt_perm hp]
  have e4 : (allA l).h2 = (allA m).h2 := by rw [i.h2, j.h2, cnt_perm hp]
  have e5 : (allA l).h3 = (allA m).h3 := by rw [i.h3, j.h3, cnt_perm hp]
  have e6 : (allA l).re = (allA m).re := by rw [i.re, j.re, cnt_perm hp, cnt_perm hp]
  have e7 : (allA l).im = (allA m).im := by rw [i.im, j.im, cnt_perm hp, cnt_perm hp]
  exact ⟨e1, emin, emax, e2, e3, e4, e5, e6, e7⟩
end Go.Proofs.Ytnjojbanbcahnaa.Fo
