/- Who has which partition, as the document has it (coop): plain mathematics. -/
import Derived.Test.YtafibgekikjlhaaAsFairW
import Derived.Test.YtafibgekikjlhaaAsKit
namespace Go.Proofs.Ytafibgekikjlhaa
open Go.RowKit Vm As
set_option linter.unusedVariables false
set_option linter.unusedSimpArgs false

structure Co where
  g : Int
  M : List Int
  H : List Int
  W : List Int
/-- What nobody has goes to whom is to have it. -/
def giveL (H W : List Int) : List Int := List.zipWith (fun h x => if h = 0 then x else h) H W
def wantF (C : Co) : List Int := stickyF C.H.length C.M (giveL C.H C.W)
def begC (C : Co) : Co := { C with g := C.g + 1, W := wantF C, H := giveL C.H (wantF C) }
def badM (m : Int) : Prop := m < 1 ∨ 1099511627776 < m
/-- What joining answers, looked at from the i-th on. -/
def joinTo (C : Co) (l : List Int) : Nat → Int
  | 0 => 0
  | i + 1 => if joinTo C l i ≠ 0 then joinTo C l i else if badM' (l.getD i 0) = true then 1 else if C.M.contains (l.getD i 0) = true ∨ (l.take i).contains (l.getD i 0) = true then 9 else 0
where badM' (m : Int) : Bool := decide (m < 1) || decide (1099511627776 < m)
def joinE (C : Co) (l : List Int) : Int := if l.length = 0 then 1 else if joinTo C l l.length ≠ 0 then joinTo C l l.length else if 8 < C.M.length + l.length then 5 else 0
def sortL (l : List Int) : List Int := l.mergeSort fun x y => decide (x ≤ y)
def joinC (C : Co) (l : List Int) : Co := if joinE C l = 0 then begC { C with M := sortL (C.M ++ l) } else C
def leaveE (C : Co) (m : Int) : Int := if C.M.contains m = true then 0 else 11
def dropL (H : List Int) (m : Int) : List Int := H.map fun x => if x = m then 0 else x
def leaveC (C : Co) (m : Int) : Co := if C.M.contains m = true then begC { C with M := C.M.filter (fun x => !(x == m)), H := dropL C.H m } else C
def surp (C : Co) (m : Int) (p : Nat) : Bool := (C.H.getD p 0 == m) && (C.W.getD p 0 != m)
def revTo (C : Co) (m : Int) : Nat → List Int
  | 0 => []
  | p + 1 => revTo C m p ++ (if surp C m p = true then [(p : Int)] else [])
def revE (C : Co) (m : Int) : Int := if C.M.contains m = true then 0 else 11
def revL (C : Co) (m : Int) : List Int := if C.M.contains m = true then revTo C m C.H.length else []
def doneE (C : Co) (m p : Int) : Int := if C.M.contains m = true then (if 0 ≤ p ∧ p < (C.H.length : Int) then (if surp C m p.toNat = true then 0 else 13) else 6) else 11
def doneC (C : Co) (m p : Int) : Co := if doneE C m p = 0 then { C with H := C.H.set p.toNat (C.W.getD p.toNat 0) } else C
theorem giveL_len (H W : List Int) (h : H.length = W.length) : (giveL H W).length = H.length := by unfold giveL; rw [List.length_zipWith]; omega
theorem giveL_at {H W : List Int} {p : Nat} (h1 : p < H.length) (h2 : p < W.length) : (giveL H W).getD p 0 = if H.getD p 0 = 0 then W.getD p 0 else H.getD p 0 := by
  unfold giveL
  have e1 : H.getD p 0 = H[p] := by simp [List.getD, h1]
  have e2 : W.getD p 0 = W[p] := by simp [List.getD, h2]
  rw [e1, e2, List.getD_eq_getElem?_getD, List.getElem?_eq_getElem (by rw [List.length_zipWith]; omega), List.getElem_zipWith]
  rfl
theorem wantF_len {C : Co} (h0 : 1 ≤ C.H.length) (h1 : C.H.length ≤ 64) : (wantF C).length = C.H.length := by
  have hok : okP (C.H.length : Int) = true := by unfold okP; simp; omega
  unfold wantF stickyF
  rw [if_pos hok, stickyL_len]; omega
end Go.Proofs.Ytafibgekikjlhaa
