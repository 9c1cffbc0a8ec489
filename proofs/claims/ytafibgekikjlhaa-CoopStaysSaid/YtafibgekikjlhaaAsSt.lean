/- What Range and Sticky come to, as functions on lists. Plain mathematics. -/
import Derived.Test.YtafibgekikjlhaaAsMath
namespace Go.Proofs.Ytafibgekikjlhaa.As
open Vm
set_option linter.unusedVariables false

/-- How many the i-th of k has. -/
def share (parts k i : Nat) : Nat := parts / k + if i < parts % k then 1 else 0
/-- What the first i members have, side by side. -/
def rngTo (parts : Nat) (m : List Int) : Nat → List Int
  | 0 => []
  | i + 1 => rngTo parts m i ++ List.replicate (share parts m.length i) (m.getD i 0)
theorem rngTo_len (parts : Nat) (m : List Int) : ∀ i, (rngTo parts m i).length = i * (parts / m.length) + min i (parts % m.length) := by
  intro i
  induction i with
  | zero => simp [rngTo]
  | succ i ih =>
    rw [rngTo, List.length_append, List.length_replicate, ih, Nat.add_mul]
    unfold share
    split <;> omega
theorem rngTo_all (parts : Nat) (m : List Int) (h : 0 < m.length) : (rngTo parts m m.length).length = parts := by
  rw [rngTo_len]
  have h1 := Nat.div_add_mod parts m.length
  have h2 := Nat.mod_lt parts h
  omega
theorem rngTo_le (parts : Nat) (m : List Int) (i : Nat) (hi : i ≤ m.length) (h : 0 < m.length) : (rngTo parts m i).length ≤ parts := by
  rw [rngTo_len]
  have h1 := Nat.div_add_mod parts m.length
  have h2 := Nat.mod_lt parts h
  have h3 : i * (parts / m.length) ≤ m.length * (parts / m.length) := Nat.mul_le_mul_right _ hi
  omega
def rangeL (parts : Nat) (m : List Int) : List Int := if m = [] then List.replicate parts 0 else rngTo parts m m.length
theorem rangeL_len (parts : Nat) (m : List Int) : (rangeL parts m).length = parts := by
  unfold rangeL
  by_cases h : m = []
  · rw [if_pos h]; simp
  · rw [if_neg h]; exact rngTo_all parts m (List.length_pos_iff.2 h)
def cnt (l : List Int) (x : Int) : Nat := l.count x
/-- How many members have more than n. -/
def abv (l m : List Int) (n : Nat) : Nat := m.countP fun x => decide (n < cnt l x)
def step1 (least rest : Nat) (m l : List Int) (i : Nat) (o : Int) : List Int :=
  if o ∈ m ∧ (cnt l o < least ∨ (cnt l o = least ∧ abv l m least < rest)) then l.set i o else l
def keepTo (parts : Nat) (m old : List Int) : Nat → List Int
  | 0 => List.replicate parts 0
  | i + 1 => step1 (parts / m.length) (parts % m.length) m (keepTo parts m old i) i (old.getD i 0)
/-- The first one that has the fewest. -/
def poorTo (m l : List Int) : Nat → Int
  | 0 => m.getD 0 0
  | k + 1 => if cnt l (m.getD k 0) < cnt l (poorTo m l k) then m.getD k 0 else poorTo m l k
def step2 (m l : List Int) (i : Nat) : List Int := if l.getD i 0 = 0 then l.set i (poorTo m l m.length) else l
def fillTo (m l : List Int) : Nat → List Int
  | 0 => l
  | i + 1 => step2 m (fillTo m l i) i
def stickyL (parts : Nat) (m old : List Int) : List Int := if m = [] then List.replicate parts 0 else fillTo m (keepTo parts m old (min parts old.length)) parts
theorem step1_len (least rest : Nat) (m l : List Int) (i : Nat) (o : Int) : (step1 least rest m l i o).length = l.length := by
  unfold step1; split <;> simp
theorem keepTo_len (parts : Nat) (m old : List Int) : ∀ i, (keepTo parts m old i).length = parts := by
  intro i
  induction i with
  | zero => simp [keepTo]
  | succ i ih => rw [keepTo, step1_len, ih]
theorem step2_len (m l : List Int) (i : Nat) : (step2 m l i).length = l.length := by
  unfold step2; split <;> simp
theorem fillTo_len (m l : List Int) : ∀ i, (fillTo m l i).length = l.length := by
  intro i
  induction i with
  | zero => rfl
  | succ i ih => rw [fillTo, step2_len, ih]
theorem stickyL_len (parts : Nat) (m old : List Int) : (stickyL parts m old).length = parts := by
  unfold stickyL
  split
  · simp
  · rw [fillTo_len, keepTo_len]
/-- A place that nobody had gets an owner: what is counted. -/
theorem cnt_set {l : List Int} {i : Nat} {o : Int} (hi : i < l.length) (h0 : l.getD i 0 = 0) (ho : o ≠ 0) : cnt (l.set i o) o = cnt l o + 1 ∧ ∀ x, x ≠ o → x ≠ 0 → cnt (l.set i o) x = cnt l x := by
  have e : l = l.take i ++ l.getD i 0 :: l.drop (i + 1) := by
    rw [show l.getD i 0 = l[i] from by simp [List.getD, hi], List.getElem_cons_drop, List.take_append_drop]
  have e2 : l.set i o = l.take i ++ o :: l.drop (i + 1) := by
    rw [List.set_eq_take_append_cons_drop, if_pos hi]
  unfold cnt
  constructor
  · rw [e2]
    conv => rhs; rw [e]
    rw [h0, List.count_append, List.count_append, List.count_cons, List.count_cons]
    simp [Ne.symm ho]
    omega
  · intro x hx hx0
    rw [e2]
    conv => rhs; rw [e]
    rw [h0, List.count_append, List.count_append, List.count_cons, List.count_cons]
    simp [Ne.symm hx, Ne.symm hx0]
theorem cnt_le (l : List Int) (x : Int) : cnt l x ≤ l.length := List.count_le_length
/-- How many are above least, behind one more grant. -/
theorem abv_set {l m : List Int} {i n : Nat} {o : Int} (hm : m.Pairwise (· < ·)) (hp : ∀ x ∈ m, 0 < x) (ho : o ∈ m) (hi : i < l.length) (h0 : l.getD i 0 = 0) :
    (cnt l o < n → abv (l.set i o) m n = abv l m n) ∧ (cnt l o = n → abv (l.set i o) m n = abv l m n + 1) := by
  have ho0 : o ≠ 0 := by have := hp o ho; omega
  obtain ⟨h1, h2⟩ := cnt_set hi h0 ho0
  constructor
  · intro hlt
    unfold abv
    refine List.countP_congr fun x hx => ?_
    by_cases hxo : x = o
    · subst hxo; simp; omega
    · have hx0 : x ≠ 0 := by have := hp x hx; omega
      rw [h2 x hxo hx0]
  · intro he
    unfold abv
    have key : ∀ (s : List Int), s.Pairwise (· < ·) → (∀ x ∈ s, 0 < x) → s.countP (fun x => decide (n < cnt (l.set i o) x)) = s.countP (fun x => decide (n < cnt l x)) + if o ∈ s then 1 else 0 := by
      intro s
      induction s with
      | nil => intro _ _; simp
      | cons y s ih =>
        intro hs hs0
        obtain ⟨hs1, hs2⟩ := List.pairwise_cons.1 hs
        rw [List.countP_cons, List.countP_cons, ih hs2 (fun x hx => hs0 x (List.mem_cons_of_mem _ hx))]
        by_cases hyo : y = o
        · subst hyo
          have hns : y ∉ s := fun h => by have := hs1 y h; omega
          rw [h1]
          simp [hns, he]
        · have hy0 : y ≠ 0 := by have := hs0 y (List.mem_cons_self ..); omega
          rw [h2 y hyo hy0]
          by_cases hos : o ∈ s
          · simp [hos, Ne.symm hyo]; omega
          · simp [hos, Ne.symm hyo]
    rw [key m hm hp, if_pos ho]
theorem abv_zero (m : List Int) (parts n : Nat) (hp : ∀ x ∈ m, 0 < x) : abv (List.replicate parts 0) m n = 0 := by
  unfold abv
  rw [List.countP_eq_zero]
  intro x hx
  have := hp x hx
  have : cnt (List.replicate parts 0) x = 0 := by
    unfold cnt
    rw [List.count_eq_zero]
    intro h
    have := List.eq_of_mem_replicate h
    omega
  simp [this]
theorem abv_le (l m : List Int) (n : Nat) : abv l m n ≤ m.length := List.countP_le_length
end Go.Proofs.Ytafibgekikjlhaa.As
