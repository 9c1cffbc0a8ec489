/- Plain mathematics of sketches as bytes. -/
import Derived.Test.YtbljhmcenjmjjaaBk
import Derived.IntWalk
namespace Go.Proofs.Ytbljhmcenjmjjaa
open Go.RowKit Vm Sk
set_option linter.unusedVariables false

def encD : Int → List Bk → List UInt8
  | _, [] => []
  | last, x :: t => putL (x.b - last) ++ (putL x.n ++ encD x.b t)
def skL (l : List Bk) : List UInt8 := putL (l.length : Int) ++ encD 0 l
def Rng (l : List Bk) : Prop := ∀ x ∈ l, -960 ≤ x.b ∧ x.b < 960 ∧ I64 x.n
theorem MayS.rng {l : List Bk} (h : MayS l) : Rng l := by
  intro x hx
  obtain ⟨i, hi, he⟩ := List.mem_iff_getElem.1 hx
  have := h.1 i hi
  unfold OkAt at this
  simp only [List.getD, List.getElem?_eq_getElem hi, Option.getD_some, he] at this
  unfold I64
  omega
def wr (x : Int) : Int := IntKind.i64.wrap x
theorem wr_in {x : Int} (h : -9223372036854775808 ≤ x ∧ x ≤ 9223372036854775807) : wr x = x := IntWalk.i64_in x h
theorem wr_back {last d b : Int} (hd : I64 d) (hl : -960 ≤ last ∧ last < 960) (hb : wr (last + d) = b) (hr : -960 ≤ b ∧ b < 960) : d = b - last := by
  unfold wr at hb
  rw [IntKind.wrap_i64] at hb
  unfold I64 at hd
  omega
/-- So many buckets, the sums wrapped. -/
def unP : Nat → Int → List UInt8 → Option (List Bk × List UInt8)
  | 0, _, s => some ([], s)
  | n + 1, last, s =>
    match takeL s with
    | none => none
    | some (d, s1) =>
      match takeL s1 with
      | none => none
      | some (k, s2) => (unP n (wr (last + d)) s2).map fun p => (⟨wr (last + d), k⟩ :: p.1, p.2)
/-- So many buckets, differences that are too great refused. -/
def unR : Nat → Int → List UInt8 → Option (List Bk × List UInt8)
  | 0, _, s => some ([], s)
  | n + 1, last, s =>
    match takeL s with
    | none => none
    | some (d, s1) =>
      match takeL s1 with
      | none => none
      | some (k, s2) => if d < -1920 ∨ 1920 < d then none else (unR n (d + last) s2).map fun p => (⟨d + last, k⟩ :: p.1, p.2)
theorem unP_put (l : List Bk) : ∀ (last : Int) (r : List UInt8), Rng l → -960 ≤ last ∧ last < 960 → unP l.length last (encD last l ++ r) = some (l, r) := by
  induction l with
  | nil => intro last r _ _; rfl
  | cons x t ih =>
    intro last r h hl
    have hx := h x (by simp)
    have ht := ih x.b r (fun y hy => h y (by simp [hy])) ⟨hx.1, hx.2.1⟩
    rw [List.length_cons, unP, encD, List.append_assoc, List.append_assoc, takeL_put (by unfold I64; omega)]
    simp only
    rw [takeL_put hx.2.2]
    simp only
    rw [show last + (x.b - last) = x.b from by omega, wr_in (by omega), ht]
    rfl
theorem unR_put (l : List Bk) : ∀ (last : Int) (r : List UInt8), Rng l → -960 ≤ last ∧ last < 960 → unR l.length last (encD last l ++ r) = some (l, r) := by
  induction l with
  | nil => intro last r _ _; rfl
  | cons x t ih =>
    intro last r h hl
    have hx := h x (by simp)
    have ht := ih x.b r (fun y hy => h y (by simp [hy])) ⟨hx.1, hx.2.1⟩
    rw [List.length_cons, unR, encD, List.append_assoc, List.append_assoc, takeL_put (by unfold I64; omega)]
    simp only
    rw [takeL_put hx.2.2]
    simp only
    rw [if_neg (by omega), show x.b - last + last = x.b from by omega, ht]
    rfl
theorem unP_some (n : Nat) : ∀ (last : Int) (s : List UInt8) (l : List Bk) (r : List UInt8), unP n last s = some (l, r) → Rng l → -960 ≤ last ∧ last < 960 → l.length = n ∧ s = encD last l ++ r := by
  induction n with
  | zero => intro last s l r h _ _; cases h; exact ⟨rfl, rfl⟩
  | succ n ih =>
    intro last s l r h hr hl
    rw [unP] at h
    split at h
    · cases h
    · next d s1 h1 =>
      split at h
      · cases h
      · next k s2 h2 =>
        cases h3 : unP n (wr (last + d)) s2 with
        | none => rw [h3] at h; cases h
        | some p =>
          obtain ⟨l', r'⟩ := p
          rw [h3] at h
          cases h
          obtain ⟨id, e1⟩ := takeL_some h1
          obtain ⟨ik, e2⟩ := takeL_some h2
          have hx := hr ⟨wr (last + d), k⟩ (by simp)
          simp only at hx
          have hd := wr_back id hl rfl ⟨hx.1, hx.2.1⟩
          obtain ⟨i1, i2⟩ := ih _ _ _ _ h3 (fun y hy => hr y (by simp [hy])) ⟨hx.1, hx.2.1⟩
          refine ⟨by simp [i1], ?_⟩
          rw [e1, e2, i2, encD, List.append_assoc, List.append_assoc]
          simp only
          rw [← hd]
theorem unR_some (n : Nat) : ∀ (last : Int) (s : List UInt8) (l : List Bk) (r : List UInt8), unR n last s = some (l, r) → l.length = n ∧ s = encD last l ++ r := by
  induction n with
  | zero => intro last s l r h; cases h; exact ⟨rfl, rfl⟩
  | succ n ih =>
    intro last s l r h
    rw [unR] at h
    split at h
    · cases h
    · next d s1 h1 =>
      split at h
      · cases h
      · next k s2 h2 =>
        split at h
        · cases h
        · cases h3 : unR n (d + last) s2 with
          | none => rw [h3] at h; cases h
          | some p =>
            obtain ⟨l', r'⟩ := p
            rw [h3] at h
            cases h
            obtain ⟨id, e1⟩ := takeL_some h1
            obtain ⟨ik, e2⟩ := takeL_some h2
            obtain ⟨i1, i2⟩ := ih _ _ _ _ h3
            refine ⟨by simp [i1], ?_⟩
            rw [e1, e2, i2, encD, List.append_assoc, List.append_assoc]
            simp only
            rw [show d + last - last = d from by omega]
/-- What a decoder finds. -/
def IsS (t : List UInt8) (o : Option (List Bk)) : Prop := (∃ l, o = some l ∧ MayS l ∧ l.length ≤ 1920 ∧ t = skL l) ∨ (o = none ∧ ∀ l, MayS l → l.length ≤ 1920 → t ≠ skL l)
theorem isS_ex (t : List UInt8) : ∃ o, IsS t o := by
  by_cases h : ∃ l, MayS l ∧ l.length ≤ 1920 ∧ t = skL l
  · obtain ⟨l, h1, h2, h3⟩ := h; exact ⟨some l, .inl ⟨l, rfl, h1, h2, h3⟩⟩
  · exact ⟨none, .inr ⟨rfl, fun l h1 h2 h3 => h ⟨l, h1, h2, h3⟩⟩⟩
theorem skL_take {l : List Bk} (h : l.length ≤ 1920) : takeL (skL l) = some ((l.length : Int), encD 0 l) := takeL_put ⟨by omega, by omega⟩ _
theorem IsS.none_of {t : List UInt8} {o : Option (List Bk)} (h : IsS t o) (hn : ∀ l, MayS l → l.length ≤ 1920 → t ≠ skL l) : o = none := by
  rcases h with ⟨l, _, h1, h2, h3⟩ | ⟨h1, _⟩
  · exact absurd h3 (hn l h1 h2)
  · exact h1
theorem IsS.n1 {t : List UInt8} {o : Option (List Bk)} (h : IsS t o) (ht : takeL t = none) : o = none :=
  h.none_of fun l h1 h2 e => by rw [e, skL_take h2] at ht; cases ht
theorem IsS.n2 {t r : List UInt8} {n : Int} {o : Option (List Bk)} (h : IsS t o) (ht : takeL t = some (n, r)) (hn : n < 0 ∨ 1920 < n) : o = none :=
  h.none_of fun l h1 h2 e => by rw [e, skL_take h2] at ht; cases ht; omega
theorem IsS.n3 {t r : List UInt8} {N : Nat} {o : Option (List Bk)} (h : IsS t o) (ht : takeL t = some ((N : Int), r)) (hx : ∀ l, MayS l → unP N 0 r = some (l, []) → False) : o = none :=
  h.none_of fun l h1 h2 e => by
    rw [e, skL_take h2] at ht
    simp only [Option.some.injEq, Prod.mk.injEq] at ht
    obtain ⟨e1, rfl⟩ := ht
    have hN : N = l.length := by omega
    subst hN
    refine hx l h1 ?_
    have := unP_put l 0 [] h1.rng ⟨by omega, by omega⟩
    rwa [List.append_nil] at this
theorem IsS.n4 {t r : List UInt8} {N : Nat} {o : Option (List Bk)} (h : IsS t o) (ht : takeL t = some ((N : Int), r)) (hx : ∀ l, MayS l → unR N 0 r = some (l, []) → False) : o = none :=
  h.none_of fun l h1 h2 e => by
    rw [e, skL_take h2] at ht
    simp only [Option.some.injEq, Prod.mk.injEq] at ht
    obtain ⟨e1, rfl⟩ := ht
    have hN : N = l.length := by omega
    subst hN
    refine hx l h1 ?_
    have := unR_put l 0 [] h1.rng ⟨by omega, by omega⟩
    rwa [List.append_nil] at this
theorem skL_inj {a b : List Bk} (ha : MayS a) (hb : MayS b) (ha2 : a.length ≤ 1920) (hb2 : b.length ≤ 1920) (h : skL a = skL b) : a = b := by
  have h1 := skL_take ha2
  rw [h, skL_take hb2] at h1
  simp only [Option.some.injEq, Prod.mk.injEq] at h1
  have h2 := unP_put a 0 [] ha.rng ⟨by omega, by omega⟩
  have h3 := unP_put b 0 [] hb.rng ⟨by omega, by omega⟩
  rw [← h1.2, show a.length = b.length from by omega, h3] at h2
  injection h2 with h2
  injection h2 with h2 _
  exact h2.symm
theorem IsS.y {t : List UInt8} {ls : List Bk} {o : Option (List Bk)} (h : IsS t o) (hm : MayS ls) (hl : ls.length ≤ 1920) (ht : t = skL ls) : o = some ls := by
  rcases h with ⟨l, ho, h1, h2, h3⟩ | ⟨_, h2⟩
  · rw [ho, skL_inj h1 hm h2 hl (h3.symm.trans ht)]
  · exact absurd ht (h2 ls hm hl)
theorem IsS.y3 {t r : List UInt8} {N : Nat} {ls : List Bk} {o : Option (List Bk)} (h : IsS t o) (ht : takeL t = some ((N : Int), r)) (hN : N ≤ 1920) (hu : unP N 0 r = some (ls, [])) (hm : MayS ls) : o = some ls := by
  obtain ⟨h1, h2⟩ := unP_some N 0 r ls [] hu hm.rng ⟨by omega, by omega⟩
  refine h.y hm (by omega) ?_
  rw [(takeL_some ht).2, h2, List.append_nil, ← h1]; rfl
theorem IsS.y4 {t r : List UInt8} {N : Nat} {ls : List Bk} {o : Option (List Bk)} (h : IsS t o) (ht : takeL t = some ((N : Int), r)) (hN : N ≤ 1920) (hu : unR N 0 r = some (ls, [])) (hm : MayS ls) : o = some ls := by
  obtain ⟨h1, h2⟩ := unR_some N 0 r ls [] hu
  refine h.y hm (by omega) ?_
  rw [(takeL_some ht).2, h2, List.append_nil, ← h1]; rfl
/-- Steps of the loops. -/
def LeftP (r1 : List UInt8) (N : Nat) (ls : List Bk) (last : Int) (t : List UInt8) : Prop := unP N 0 r1 = (unP (N - ls.length) last t).map fun p => (ls ++ p.1, p.2)
def LeftR (r1 : List UInt8) (N : Nat) (ls : List Bk) (last : Int) (t : List UInt8) : Prop := unR N 0 r1 = (unR (N - ls.length) last t).map fun p => (ls ++ p.1, p.2)
theorem LeftP.start (r1 : List UInt8) (N : Nat) : LeftP r1 N [] 0 r1 := by unfold LeftP; cases unP N 0 r1 <;> simp
theorem LeftR.start (r1 : List UInt8) (N : Nat) : LeftR r1 N [] 0 r1 := by unfold LeftR; cases unR N 0 r1 <;> simp
theorem LeftP.done {r1 t : List UInt8} {N : Nat} {ls : List Bk} {last : Int} (h : LeftP r1 N ls last t) (hl : ls.length = N) : unP N 0 r1 = some (ls, t) := by
  unfold LeftP at h; rw [h, show N - ls.length = 0 from by omega]; simp [unP]
theorem LeftR.done {r1 t : List UInt8} {N : Nat} {ls : List Bk} {last : Int} (h : LeftR r1 N ls last t) (hl : ls.length = N) : unR N 0 r1 = some (ls, t) := by
  unfold LeftR at h; rw [h, show N - ls.length = 0 from by omega]; simp [unR]
theorem LeftP.step {r1 t s1 s2 : List UInt8} {N : Nat} {ls : List Bk} {last d k : Int} (h : LeftP r1 N ls last t) (hl : ls.length < N) (h1 : takeL t = some (d, s1)) (h2 : takeL s1 = some (k, s2)) : LeftP r1 N (ls ++ [⟨wr (last + d), k⟩]) (wr (last + d)) s2 := by
  unfold LeftP at h ⊢
  rw [h, show N - ls.length = (N - (ls ++ [(⟨wr (last + d), k⟩ : Bk)]).length) + 1 from by simp; omega, unP, h1]
  simp only
  rw [h2]
  simp only
  cases unP (N - (ls ++ [(⟨wr (last + d), k⟩ : Bk)]).length) (wr (last + d)) s2 <;> simp
theorem LeftR.step {r1 t s1 s2 : List UInt8} {N : Nat} {ls : List Bk} {last d k : Int} (h : LeftR r1 N ls last t) (hl : ls.length < N) (h1 : takeL t = some (d, s1)) (h2 : takeL s1 = some (k, s2)) (hd : ¬ (d < -1920 ∨ 1920 < d)) : LeftR r1 N (ls ++ [⟨d + last, k⟩]) (d + last) s2 := by
  unfold LeftR at h ⊢
  rw [h, show N - ls.length = (N - (ls ++ [(⟨d + last, k⟩ : Bk)]).length) + 1 from by simp; omega, unR, h1]
  simp only
  rw [h2]
  simp only
  rw [if_neg hd]
  cases unR (N - (ls ++ [(⟨d + last, k⟩ : Bk)]).length) (d + last) s2 <;> simp
theorem LeftP.fail {r1 t : List UInt8} {N : Nat} {ls : List Bk} {last : Int} (h : LeftP r1 N ls last t) (hl : ls.length < N) (h1 : takeN 2 t = none) : unP N 0 r1 = none := by
  unfold LeftP at h
  rw [h, show N - ls.length = (N - ls.length - 1) + 1 from by omega, unP]
  cases h2 : takeL t with
  | none => rfl
  | some p =>
    obtain ⟨d, s1⟩ := p
    rw [takeN_step h2] at h1
    simp only
    cases h3 : takeL s1 with
    | none => rfl
    | some q => obtain ⟨k, s2⟩ := q; rw [takeN_step h3] at h1; simp [takeN] at h1
theorem LeftR.fail {r1 t : List UInt8} {N : Nat} {ls : List Bk} {last : Int} (h : LeftR r1 N ls last t) (hl : ls.length < N) (h1 : takeL t = none ∨ (∃ d s1, takeL t = some (d, s1) ∧ (takeL s1 = none ∨ d < -1920 ∨ 1920 < d))) : unR N 0 r1 = none := by
  unfold LeftR at h
  rw [h, show N - ls.length = (N - ls.length - 1) + 1 from by omega, unR]
  rcases h1 with h1 | ⟨d, s1, h1, h2⟩
  · rw [h1]; rfl
  · rw [h1]
    simp only
    cases h3 : takeL s1 with
    | none => rfl
    | some q =>
      obtain ⟨k, s2⟩ := q
      simp only
      rw [if_pos (by rcases h2 with h2 | h2; rw [h3] at h2; cases h2; exact h2)]
      rfl
end Go.Proofs.Ytbljhmcenjmjjaa
