/- Plain mathematics of batch.Decode; rows of records of the call's own. -/
import Derived.Test.YtdeenkpkcibebaaBat
import Derived.Test.YtdeenkpkcibebaaSlice
import Derived.OwnWalk
namespace Go.Proofs.Ytdeenkpkcibebaa
open Go.RowKit Vm Bm
set_option linter.unusedVariables false

/-- So many records of N are taken, t is left. -/
def Left6 (r1 : List UInt8) (N : Nat) (ls : List Rec) (t : List UInt8) : Prop := takeRs N r1 = (takeRs (N - ls.length) t).map fun p => (ls ++ p.1, p.2)
theorem Left6.start (r1 : List UInt8) (N : Nat) : Left6 r1 N [] r1 := by
  unfold Left6; cases takeRs N r1 <;> simp
theorem Left6.fail {r1 t : List UInt8} {N : Nat} {ls : List Rec} (h : Left6 r1 N ls t) (hl : ls.length < N) (ht : takeR t = none) : takeRs N r1 = none := by
  unfold Left6 at h
  rw [h, show N - ls.length = (N - ls.length - 1) + 1 from by omega, takeRs, ht]; rfl
theorem Left6.step {r1 t t' : List UInt8} {N : Nat} {ls : List Rec} {r : Rec} (h : Left6 r1 N ls t) (hl : ls.length < N) (ht : takeR t = some (r, t')) : Left6 r1 N (ls ++ [r]) t' := by
  unfold Left6 at h ⊢
  rw [h, show N - ls.length = (N - (ls ++ [r]).length) + 1 from by simp; omega, takeRs, ht]
  simp only
  cases takeRs (N - (ls ++ [r]).length) t' <;> simp
theorem Left6.done {r1 t : List UInt8} {N : Nat} {ls : List Rec} (h : Left6 r1 N ls t) (hl : ls.length = N) : takeRs N r1 = some (ls, t) := by
  unfold Left6 at h
  rw [h, show N - ls.length = 0 from by omega]; simp [takeRs]
theorem takeR_size {s t : List UInt8} {r : Rec} (h : takeR s = some (r, t)) : t.length < s.length := by
  obtain ⟨_, e⟩ := takeR_some h
  have := recL_pos r
  rw [e, List.length_append]; omega
theorem five_nums {s r : List UInt8} {vs : List Int} (h : takeN 5 s = some (vs, r)) : ∃ k p e q n, vs = [k, p, e, q, n] := by
  match vs, takeN_len h with
  | [k, p, e, q, n], _ => exact ⟨k, p, e, q, n, rfl⟩
theorem takeN_tail {n : Nat} {s r : List UInt8} {vs : List Int} (h : takeN n s = some (vs, r)) : (∀ v ∈ vs, I64 v) ∧ s = putN vs ++ r := by
  induction n generalizing s vs with
  | zero => cases h; exact ⟨(fun v hv => by cases hv), rfl⟩
  | succ k ih =>
    cases h1 : takeL s with
    | none => rw [takeN_fail h1] at h; cases h
    | some p =>
      obtain ⟨v, r'⟩ := p
      rw [takeN_step h1] at h
      cases h2 : takeN k r' with
      | none => rw [h2] at h; cases h
      | some q =>
        obtain ⟨vs', r''⟩ := q
        rw [h2] at h
        simp at h
        obtain ⟨rfl, rfl⟩ := h
        obtain ⟨hv, hs⟩ := takeL_some h1
        obtain ⟨i1, i2⟩ := ih h2
        refine ⟨fun x hx => ?_, by rw [hs, i2, putN_cons, List.append_assoc]⟩
        rcases List.mem_cons.1 hx with rfl | hx
        · exact hv
        · exact i1 x hx
theorem unbat_n {s : List UInt8} (h : takeN 5 s = none) : unbatL s = none := by unfold unbatL; rw [h]
theorem unbat_bad {s r : List UInt8} {k p e q n : Int} (h : takeN 5 s = some ([k, p, e, q, n], r)) (hn : n < 0 ∨ 64 < n) : unbatL s = none := by unfold unbatL; rw [h]; simp only; rw [if_pos hn]
theorem unbat_fail {s r : List UInt8} {k p e q : Int} {N : Nat} (h : takeN 5 s = some ([k, p, e, q, (N : Int)], r)) (hN : N ≤ 64) (hr : takeRs N r = none) : unbatL s = none := by
  unfold unbatL; rw [h]; simp only; rw [if_neg (by omega), Int.toNat_natCast, hr]
theorem unbat_rest {s r t : List UInt8} {k p e q : Int} {N : Nat} {l : List Rec} (h : takeN 5 s = some ([k, p, e, q, (N : Int)], r)) (hN : N ≤ 64) (hr : takeRs N r = some (l, t)) (ht : t ≠ []) : unbatL s = none := by
  unfold unbatL; rw [h]; simp only; rw [if_neg (by omega), Int.toNat_natCast, hr]
  cases t with
  | nil => exact absurd rfl ht
  | cons x t => rfl
theorem unbat_not {s r : List UInt8} {k p e q : Int} {N : Nat} {l : List Rec} (h : takeN 5 s = some ([k, p, e, q, (N : Int)], r)) (hN : N ≤ 64) (hr : takeRs N r = some (l, [])) (hm : ¬ MayB ⟨k, p, e, q, l⟩) : unbatL s = none := by
  unfold unbatL; rw [h]; simp only; rw [if_neg (by omega), Int.toNat_natCast, hr]; simp only; rw [if_neg hm]
theorem unbat_may {s r : List UInt8} {k p e q : Int} {N : Nat} {l : List Rec} (h : takeN 5 s = some ([k, p, e, q, (N : Int)], r)) (hN : N ≤ 64) (hr : takeRs N r = some (l, [])) (hm : MayB ⟨k, p, e, q, l⟩) : unbatL s = some ⟨k, p, e, q, l⟩ := by
  unfold unbatL; rw [h]; simp only; rw [if_neg (by omega), Int.toNat_natCast, hr]; simp only; rw [if_pos hm]

/-- A row of the call's own, of elements of several cells. -/
theorem own_sln {w : World} {base n size : Nat} {e : TypeId} {a : Option Addr} {c : Nat} {xs : List Value} (h : w.ownsRow base e size (.slice a n c) n xs) : Sl w w.heap.size a xs := by
  have hn := h.1
  rcases h.2 with ⟨hv, h0⟩ | ⟨g, cap, cur, hv, hg, hh, _⟩
  · subst h0; rw [Nat.zero_mul] at hn; exact .inl (List.eq_nil_of_length_eq_zero hn)
  · injection hv with e1 _ _
    subst e1
    have hlt := h.lt g rfl
    refine .inr ⟨g, 0, rfl, hlt.2, fun j u hu => ?_⟩
    have := h.cells (g := g) rfl j u hu
    rw [add_at] at this
    exact this
theorem own_shape {w : World} {base n size : Nat} {e : TypeId} {v : Value} {xs : List Value} (h : w.ownsRow base e size v n xs) : ∃ a c, v = .slice a n c := by
  rcases h.2 with ⟨rfl, rfl⟩ | ⟨g, cap, cur, rfl, _⟩
  · exact ⟨none, 0, rfl⟩
  · exact ⟨_, _, rfl⟩
theorem own_set {w : World} {base n size : Nat} {e : TypeId} {v u : Value} {xs : List Value} (h : w.ownsRow base e size v n xs) (b i : Nat) (hb : b < base) : (w.setCell ⟨b, i, none⟩ u).ownsRow base e size v n xs := by
  refine ⟨h.1, ?_⟩
  rcases h.2 with h0 | ⟨g, cap, cur, hv, hg, hh, r⟩
  · exact .inl h0
  · exact .inr ⟨g, cap, cur, hv, hg, (Below.heap_setCell w ⟨b, i, none⟩ u g (by show g ≠ b; omega)).trans hh, r⟩
theorem own_far {w : World} {base n size : Nat} {e : TypeId} {v u : Value} {xs : List Value} (h : w.ownsRow base e size v n xs) (b i : Nat) (hb : ∀ g, v.ownBlock = some g → g ≠ b) : (w.setCell ⟨b, i, none⟩ u).ownsRow base e size v n xs := by
  refine ⟨h.1, ?_⟩
  rcases h.2 with h0 | ⟨g, cap, cur, hv, hg, hh, r⟩
  · exact .inl h0
  · exact .inr ⟨g, cap, cur, hv, hg, (Below.heap_setCell w ⟨b, i, none⟩ u g (hb g (by rw [hv]; rfl))).trans hh, r⟩
theorem recCells_snoc (l : List Rec) (r : Rec) : recCells (l ++ [r]) = recCells l ++ [.int .i64 r.k, .int .i64 r.t, .string (str r.x)] := by rw [recCells_append]; rfl
theorem info_rec : (Try.prog.info? 43).map (fun i => (i.zero, i.size, i.bytes)) = some (some (.agg #[.int .i64 0, .int .i64 0, .string ⟨#[]⟩]), 3, 32) := by kernel_rfl
theorem Whole.fives {w : World} {g : Nat} {t : TypeId} {b : Bat} {a : Option Addr} {c : Nat} (h : Whole w g t (bvc b a c)) :
    w.cell? ⟨g, 0, none⟩ = some (.int .i64 b.kind) ∧ w.cell? ⟨g, 1, none⟩ = some (.int .i64 b.pid) ∧ w.cell? ⟨g, 2, none⟩ = some (.int .i64 b.epoch) ∧ w.cell? ⟨g, 3, none⟩ = some (.int .i64 b.seq) ∧ w.cell? ⟨g, 4, none⟩ = some (.slice a b.l.length c) ∧
      w.frozen? ⟨g, 0, none⟩ = false ∧ w.frozen? ⟨g, 1, none⟩ = false ∧ w.frozen? ⟨g, 2, none⟩ = false ∧ w.frozen? ⟨g, 3, none⟩ = false ∧ w.frozen? ⟨g, 4, none⟩ = false ∧ g < w.heap.size :=
  ⟨h.cell 0, h.cell 1, h.cell 2, h.cell 3, h.cell 4, h.frozen 0, h.frozen 1, h.frozen 2, h.frozen 3, h.frozen 4, h.lt⟩
theorem below_setFive {B : Nat} {v w : World} {g : Nat} (h : Below B v w) (hg : B ≤ g) (x0 x1 x2 x3 x4 : Value) :
    Below B v (((((w.setCell ⟨g, 0, none⟩ x0).setCell ⟨g, 1, none⟩ x1).setCell ⟨g, 2, none⟩ x2).setCell ⟨g, 3, none⟩ x3).setCell ⟨g, 4, none⟩ x4) :=
  ((((h.setCell hg _).setCell hg _).setCell hg _).setCell hg _).setCell hg _
theorem own_setFive {w : World} {base n size : Nat} {e : TypeId} {v : Value} {xs : List Value} (h : w.ownsRow base e size v n xs) (g : Nat) (hb : g < base) (x0 x1 x2 x3 x4 : Value) :
    (((((w.setCell ⟨g, 0, none⟩ x0).setCell ⟨g, 1, none⟩ x1).setCell ⟨g, 2, none⟩ x2).setCell ⟨g, 3, none⟩ x3).setCell ⟨g, 4, none⟩ x4).ownsRow base e size v n xs :=
  own_set (own_set (own_set (own_set (own_set h g 0 hb) g 1 hb) g 2 hb) g 3 hb) g 4 hb
def zb : Bat := ⟨0, 0, 0, 0, []⟩
/-- What Decode leaves. -/
def BPost (w : World) (o : Option Bat) (e : Ending) (w' : World) : Prop :=
  Below w.heap.size w w' ∧ ((o = none ∧ e = .returned (.tuple #[bv zb none 0, .int .i64 2])) ∨ ∃ b a c, o = some b ∧ e = .returned (.tuple #[bv b a c, .int .i64 0]) ∧ Sl w' w'.heap.size a (recCells b.l))
end Go.Proofs.Ytdeenkpkcibebaa
