/- Plain mathematics of chapter 6: records and batches as bytes. No program is imported. -/
import Derived.Test.YtfjnmjibifefgaaVm
namespace Go.Proofs.Ytfjnmjibifefgaa.Bm
open Vm
set_option linter.unusedVariables false

structure Rec where
  k : Int
  t : Int
  x : List UInt8
def MayR (r : Rec) : Prop := 0 ≤ r.k ∧ r.k ≤ 1048576 ∧ 0 ≤ r.t ∧ r.t ≤ 1099511627776 ∧ r.x.length ≤ 512
instance (r : Rec) : Decidable (MayR r) := by unfold MayR; infer_instance
def recL (r : Rec) : List UInt8 := putL r.k ++ (putL r.t ++ (putL (r.x.length : Int) ++ r.x))
def RecI (r : Rec) : Prop := I64 r.k ∧ I64 r.t ∧ r.x.length ≤ 9223372036854775807
theorem MayR.i {r : Rec} (h : MayR r) : RecI r := by unfold MayR at h; unfold RecI I64; omega
/-- The record with which bytes begin, and what is behind it. -/
def takeR (s : List UInt8) : Option (Rec × List UInt8) :=
  match takeL s with
  | none => none
  | some (k, s1) =>
    match takeL s1 with
    | none => none
    | some (t, s2) =>
      match takeL s2 with
      | none => none
      | some (n, s3) => if n < 0 ∨ 512 < n ∨ (s3.length : Int) < n then none else
          if MayR ⟨k, t, s3.take n.toNat⟩ then some (⟨k, t, s3.take n.toNat⟩, s3.drop n.toNat) else none
theorem takeR_put {r : Rec} (h : MayR r) (rest : List UInt8) : takeR (recL r ++ rest) = some (r, rest) := by
  obtain ⟨i1, i2, i3⟩ := h.i
  obtain ⟨k, t, x⟩ := r
  have h5 := h.2.2.2.2
  simp only at i1 i2 i3 h5
  unfold takeR recL
  simp only [List.append_assoc]
  rw [takeL_put i1]
  simp only
  rw [takeL_put i2]
  simp only
  rw [takeL_put ⟨by omega, by omega⟩]
  simp only
  rw [if_neg (by simp; omega)]
  simp only [Int.toNat_natCast, List.take_left, List.drop_left]
  rw [if_pos h]
theorem takeR_some {s rest : List UInt8} {r : Rec} (h : takeR s = some (r, rest)) : MayR r ∧ s = recL r ++ rest := by
  unfold takeR at h
  split at h
  · cases h
  · next k s1 h1 =>
    split at h
    · cases h
    · next t s2 h2 =>
      split at h
      · cases h
      · next n s3 h3 =>
        split at h
        · cases h
        · next hn =>
          split at h
          · next hm =>
            cases h
            obtain ⟨_, rfl⟩ := takeL_some h1
            obtain ⟨_, rfl⟩ := takeL_some h2
            obtain ⟨_, rfl⟩ := takeL_some h3
            obtain ⟨m, rfl⟩ := Int.eq_ofNat_of_zero_le (show 0 ≤ n by omega)
            refine ⟨hm, ?_⟩
            unfold recL
            have hl : (s3.take (m : Int).toNat).length = m := by rw [List.length_take]; omega
            simp only [hl, List.append_assoc, List.take_append_drop]
          · cases h
theorem recL_inj {a b : Rec} {x y : List UInt8} (ha : MayR a) (hb : MayR b) (h : recL a ++ x = recL b ++ y) : a = b ∧ x = y := by
  have h1 := takeR_put ha x
  rw [h, takeR_put hb y] at h1
  injection h1 with h1
  injection h1 with h1 h2
  exact ⟨h1.symm, h2.symm⟩
theorem recL_pos (r : Rec) : 0 < (recL r).length := by unfold recL; rw [List.length_append]; have := putL_pos r.k; omega
theorem recL_len {r : Rec} (h : RecI r) : (recL r).length ≤ 30 + r.x.length := by
  unfold recL
  rw [List.length_append, List.length_append, List.length_append]
  have := putL_len h.1
  have := putL_len h.2.1
  have := putL_len (n := (r.x.length : Int)) ⟨by omega, by have := h.2.2; omega⟩
  omega
def recsL (l : List Rec) : List UInt8 := (l.map recL).flatten
theorem recsL_snoc (l : List Rec) (r : Rec) : recsL (l ++ [r]) = recsL l ++ recL r := by simp [recsL]
/-- So many records. -/
def takeRs : Nat → List UInt8 → Option (List Rec × List UInt8)
  | 0, s => some ([], s)
  | n + 1, s =>
    match takeR s with
    | none => none
    | some (r, s') => (takeRs n s').map fun p => (r :: p.1, p.2)
theorem takeRs_put (l : List Rec) (h : ∀ r ∈ l, MayR r) (rest : List UInt8) : takeRs l.length (recsL l ++ rest) = some (l, rest) := by
  induction l with
  | nil => rfl
  | cons r l ih =>
    have e : recsL (r :: l) ++ rest = recL r ++ (recsL l ++ rest) := by simp [recsL]
    rw [List.length_cons, takeRs, e, takeR_put (h r (by simp))]
    simp only
    rw [ih (fun x hx => h x (by simp [hx]))]
    rfl
theorem takeRs_some (n : Nat) : ∀ {s rest : List UInt8} {l : List Rec}, takeRs n s = some (l, rest) → l.length = n ∧ (∀ r ∈ l, MayR r) ∧ s = recsL l ++ rest := by
  induction n with
  | zero => intro s rest l h; cases h; exact ⟨rfl, (fun r hr => by cases hr), rfl⟩
  | succ n ih =>
    intro s rest l h
    rw [takeRs] at h
    split at h
    · cases h
    · next r s' h1 =>
      cases h2 : takeRs n s' with
      | none => rw [h2] at h; cases h
      | some p =>
        obtain ⟨l', rest'⟩ := p
        rw [h2] at h
        cases h
        obtain ⟨hm, rfl⟩ := takeR_some h1
        obtain ⟨e1, e2, e3⟩ := ih h2
        refine ⟨by simp [e1], fun x hx => ?_, ?_⟩
        · rcases List.mem_cons.1 hx with rfl | hx
          · exact hm
          · exact e2 x hx
        · rw [e3]; simp [recsL]
structure Bat where
  kind : Int
  pid : Int
  epoch : Int
  seq : Int
  l : List Rec
def Somebody (b : Bat) : Prop := 0 < b.pid ∧ 0 < b.epoch
def Nobody (b : Bat) : Prop := b.pid = 0 ∧ b.epoch = 0 ∧ b.seq = 0
instance (b : Bat) : Decidable (Somebody b) := by unfold Somebody; infer_instance
instance (b : Bat) : Decidable (Nobody b) := by unfold Nobody; infer_instance
def KindB (b : Bat) : Prop := (b.kind = 1 ∧ 0 < b.l.length ∧ (Nobody b ∨ Somebody b)) ∨ (b.kind = 2 ∧ 0 < b.l.length ∧ Somebody b) ∨ ((b.kind = 3 ∨ b.kind = 4) ∧ b.l.length = 0 ∧ Somebody b ∧ b.seq = 0)
instance (b : Bat) : Decidable (KindB b) := by unfold KindB; infer_instance
def HeadB (b : Bat) : Prop := 0 ≤ b.pid ∧ b.pid ≤ 8 ∧ 0 ≤ b.epoch ∧ b.epoch ≤ 1099511627776 ∧ 0 ≤ b.seq ∧ b.seq ≤ 1099511627776 ∧ b.l.length ≤ 64
instance (b : Bat) : Decidable (HeadB b) := by unfold HeadB; infer_instance
def MayB (b : Bat) : Prop := HeadB b ∧ KindB b ∧ ∀ r ∈ b.l, MayR r
instance (b : Bat) : Decidable (MayB b) := by unfold MayB; infer_instance
def headsL (b : Bat) : List Int := [b.kind, b.pid, b.epoch, b.seq, (b.l.length : Int)]
def batL (b : Bat) : List UInt8 := putN (headsL b) ++ recsL b.l
theorem MayB.heads {b : Bat} (h : MayB b) : ∀ n ∈ headsL b, I64 n := by
  obtain ⟨h1, h2, _⟩ := h
  unfold HeadB at h1
  unfold KindB at h2
  intro n hn
  simp only [headsL, List.mem_cons, List.not_mem_nil, or_false] at hn
  unfold I64
  rcases hn with rfl | rfl | rfl | rfl | rfl <;> omega
/-- The batch whose bytes they are. -/
def unbatL (s : List UInt8) : Option Bat :=
  match takeN 5 s with
  | some ([k, p, e, q, n], r) => if n < 0 ∨ 64 < n then none else
      match takeRs n.toNat r with
      | some (l, []) => if MayB ⟨k, p, e, q, l⟩ then some ⟨k, p, e, q, l⟩ else none
      | _ => none
  | _ => none
theorem unbatL_put {b : Bat} (h : MayB b) : unbatL (batL b) = some b := by
  obtain ⟨k, p, e, q, l⟩ := b
  have hh := h.heads
  have hn := h.1.2.2.2.2.2.2
  have h5 := takeN_put (headsL ⟨k, p, e, q, l⟩) hh (recsL l)
  have hr := takeRs_put l h.2.2 []
  rw [List.append_nil] at hr
  simp only at hn
  unfold unbatL batL
  rw [show (headsL ⟨k, p, e, q, l⟩).length = 5 from rfl] at h5
  rw [h5]
  simp only [headsL]
  rw [if_neg (by omega), Int.toNat_natCast, hr]
  simp only
  rw [if_pos h]
theorem unbatL_some {s : List UInt8} {b : Bat} (h : unbatL s = some b) : MayB b ∧ s = batL b := by
  unfold unbatL at h
  split at h
  · next k p e q n r h1 =>
    split at h
    · cases h
    · next hn =>
      split at h
      · next l h2 =>
        split at h
        · next hm =>
          cases h
          refine ⟨hm, ?_⟩
          obtain ⟨e1, e2, e3⟩ := takeRs_some _ h2
          obtain ⟨m, rfl⟩ := Int.eq_ofNat_of_zero_le (show 0 ≤ n by omega)
          have hl : (l.length : Int) = (m : Int) := by rw [e1]; simp
          have hs : ∀ (n : Nat) (s r : List UInt8) (vs : List Int), takeN n s = some (vs, r) → s = putN vs ++ r := by
            intro n
            induction n with
            | zero => intro s r vs h; cases h; rfl
            | succ n ih =>
              intro s r vs h
              rw [takeN] at h
              split at h
              · cases h
              · next v r1 g1 =>
                split at h
                · cases h
                · next vs' r2 g2 =>
                  cases h
                  obtain ⟨_, rfl⟩ := takeL_some g1
                  rw [ih _ _ _ g2, putN_cons, List.append_assoc]
          rw [hs _ _ _ _ h1, e3, List.append_nil]
          unfold batL headsL
          rw [hl]
        · cases h
      · cases h
  · cases h
theorem unbatL_iff {s : List UInt8} : (∃ b, unbatL s = some b) ∨ unbatL s = none := by
  cases h : unbatL s with
  | none => exact .inr rfl
  | some b => exact .inl ⟨b, rfl⟩
end Go.Proofs.Ytfjnmjibifefgaa.Bm
