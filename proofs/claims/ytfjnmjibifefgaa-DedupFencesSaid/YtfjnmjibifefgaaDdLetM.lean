/- What let keeps: plain mathematics. -/
import Derived.Test.YtfjnmjibifefgaaBx
import Derived.Test.YtfjnmjibifefgaaDdNote
namespace Go.Proofs.Ytfjnmjibifefgaa
open Go.RowKit Vm Bm
set_option linter.unusedVariables false
set_option linter.unusedSimpArgs false

theorem getD_lt {α : Type} (l : List α) (d : α) {i : Nat} (h : i < l.length) : l.getD i d = l[i] := by simp [List.getD, h]
theorem getR_app (a b : List Pr) (q : Int) : getR prKey (a ++ b) q = (getR prKey a q).or (getR prKey b q) := by
  induction a with
  | nil => rfl
  | cons y t ih =>
    simp only [List.cons_append, getR]
    split
    · rfl
    · exact ih
theorem getR_mid {a b : List Pr} {x : Pr} {q : Int} (ha : ∀ y ∈ a, prKey y ≠ x.p) : getR prKey (a ++ [x] ++ b) q = if q = x.p then some x else getR prKey (a ++ b) q := by
  rw [List.append_assoc, getR_app, getR_app]
  by_cases hq : q = x.p
  · subst hq
    rw [if_pos rfl, getR_none_of prKey ha]
    simp [getR, prKey]
  · rw [if_neg hq]
    rw [getR_app a b]
    simp only [getR]
    rw [if_neg (show ¬ prKey x = q from fun h => hq h.symm), Option.none_or]
theorem getR_ins {l : List Pr} {k : Nat} {x : Pr} {q : Int} (ha : ∀ p, p < l.length → prKey (l.getD p pr0) ≠ x.p) : getR prKey (ins_pr l k x) q = if q = x.p then some x else getR prKey l q := by
  unfold ins_pr
  rw [getR_mid, List.take_append_drop]
  intro y hy
  obtain ⟨i, hi, rfl⟩ := List.mem_iff_getElem.1 (List.mem_of_mem_take hy)
  have := ha i hi
  rwa [getD_lt _ _ hi] at this
theorem getR_setp {l : List Pr} {k : Nat} {x : Pr} {q : Int} (hk : k < l.length) (ha : ∀ p, p < k → prKey (l.getD p pr0) ≠ x.p) (hb : prKey (l.getD k pr0) = x.p) : getR prKey (l.set k x) q = if q = x.p then some x else getR prKey l q := by
  have hta : ∀ y ∈ l.take k, prKey y ≠ x.p := by
    intro y hy
    obtain ⟨i, hi, rfl⟩ := List.mem_iff_getElem.1 hy
    rw [List.length_take] at hi
    have := ha i (by omega)
    rw [List.getElem_take]
    rwa [getD_lt _ _ (by omega)] at this
  rw [List.set_eq_take_append_cons_drop, if_pos hk]
  rw [show l.take k ++ x :: l.drop (k + 1) = l.take k ++ [x] ++ l.drop (k + 1) from by simp, getR_mid hta]
  split
  · rfl
  · next hq =>
    have e : l = l.take k ++ [l.getD k pr0] ++ l.drop (k + 1) := by
      rw [getD_lt _ _ hk, List.append_assoc, List.singleton_append, List.getElem_cons_drop, List.take_append_drop]
    conv => rhs; rw [e]
    rw [getR_mid (by rw [show (l.getD k pr0).p = x.p from hb]; exact hta), if_neg (by rw [show (l.getD k pr0).p = x.p from hb]; exact hq)]
theorem ntIs_getR {b : Bat} {x : Pr} {l D : List Pr} {q : Int} (h : NtIs b x false l D) (h0 : b.pid ≠ 0) (hx : x.p = b.pid) : getR prKey D q = if q = b.pid then some x else getR prKey l q := by
  rcases h with ⟨h, _⟩ | ⟨_, h1, ⟨k, hk, h2, h3, rfl⟩ | ⟨h2, rfl⟩⟩ | ⟨_, k, hk, h1, h2, ⟨h3, _⟩ | ⟨_, rfl⟩⟩
  · exact absurd h h0
  · rw [getR_ins (by rw [hx]; exact h1), hx]
  · rw [show l ++ [x] = ins_pr l l.length x from by simp [ins_pr], getR_ins (by rw [hx]; exact h1), hx]
  · cases h3
  · rw [getR_setp hk (by rw [hx]; exact h1) (by rw [hx]; exact h2), hx]

theorem ntIs_len' {b : Bat} {x : Pr} {m : Bool} {l D : List Pr} (h : NtIs b x m l D) : D.length ≤ l.length + 1 := by
  rcases h with ⟨_, rfl⟩ | ⟨_, _, ⟨k, hk, _, _, rfl⟩ | ⟨_, rfl⟩⟩ | ⟨_, k, _, _, _, ⟨_, _, rfl⟩ | ⟨_, rfl⟩⟩
  · omega
  · rw [ins_pr_len _ _ _ (by omega)]; omega
  · simp
  · omega
  · simp
/-- What is asked of a producer's batches, one behind the other. -/
def stepS (pid : Int) : Option (Int × Int) → Bx → Option (Int × Int)
  | none, _ => none
  | some (e, s), x => if x.b.pid ≠ pid then some (e, s) else if x.b.epoch < e then none else
      if x.b.seq = (if e < x.b.epoch then 0 else s) then some (x.b.epoch, x.b.seq + x.b.l.length) else none
def foldS (pid : Int) (I : List Bx) : Option (Int × Int) := I.foldl (stepS pid) (some (0, 0))
theorem foldS_snoc (pid : Int) (I : List Bx) (x : Bx) : foldS pid (I ++ [x]) = stepS pid (foldS pid I) x := by unfold foldS; rw [List.foldl_append]; rfl
def lastRow (pid : Int) (x : Bx) (n : Int) : Pr := ⟨pid, x.b.epoch, x.b.seq, x.b.l.length, n⟩
def LastOf (I : List Bx) (A : List Int) (P : List Pr) (pid e s : Int) : Prop :=
  ((∀ i, i < I.length → (I.getD i bx0).b.pid ≠ pid) ∧ getR prKey P pid = none ∧ e = 0 ∧ s = 0) ∨
  ∃ j, j < I.length ∧ (I.getD j bx0).b.pid = pid ∧ (∀ i, j < i → i < I.length → (I.getD i bx0).b.pid ≠ pid) ∧
    getR prKey P pid = some (lastRow pid (I.getD j bx0) (A.getD j 0)) ∧ e = (I.getD j bx0).b.epoch ∧ s = (I.getD j bx0).b.seq + (I.getD j bx0).b.l.length
structure LetInv (I : List Bx) (A : List Int) (P : List Pr) (next : Int) : Prop where
  al : A.length = I.length
  may : ∀ x ∈ I, MayB x.b ∧ ¬ 2 < x.b.kind
  nx : 0 ≤ next ∧ next ≤ 64 * (I.length : Int)
  pl : P.length ≤ I.length
  z : getR prKey P 0 = none
  last : ∀ pid, pid ≠ 0 → ∃ e s, foldS pid I = some (e, s) ∧ LastOf I A P pid e s
theorem letInv_nil : LetInv [] [] [] 0 := ⟨rfl, fun x h => (by cases h), by simp, by simp, rfl, fun pid _ => ⟨0, 0, rfl, .inl ⟨fun i h => (by cases h), rfl, rfl, rfl⟩⟩⟩
theorem bx_snoc_lt {I : List Bx} {x : Bx} {i : Nat} (h : i < I.length) : (I ++ [x]).getD i bx0 = I.getD i bx0 := by
  rw [List.getD_eq_getElem?_getD, List.getElem?_append_left h, List.getD_eq_getElem?_getD]
theorem bx_snoc_at {I : List Bx} {x : Bx} : (I ++ [x]).getD I.length bx0 = x := by simp [List.getD_eq_getElem?_getD]
theorem int_snoc_lt {A : List Int} {x : Int} {i : Nat} (h : i < A.length) : (A ++ [x]).getD i 0 = A.getD i 0 := by
  rw [List.getD_eq_getElem?_getD, List.getElem?_append_left h, List.getD_eq_getElem?_getD]
theorem may_pos {x : Bat} (h : MayB x) (hk : ¬ 2 < x.kind) : 0 < x.l.length ∧ x.l.length ≤ 64 ∧ 0 ≤ x.seq ∧ x.seq ≤ 1099511627776 ∧ 1 ≤ x.kind := by
  obtain ⟨h1, h2, _⟩ := h
  unfold HeadB at h1
  unfold KindB at h2
  omega
theorem lastOf_other {I : List Bx} {A : List Int} {P D : List Pr} {pid e s n : Int} {x : Bx} (h : LastOf I A P pid e s) (hal : A.length = I.length) (hx : x.b.pid ≠ pid) (hD : getR prKey D pid = getR prKey P pid) : LastOf (I ++ [x]) (A ++ [n]) D pid e s := by
  have hl : (I ++ [x]).length = I.length + 1 := by simp
  rcases h with ⟨h1, h2, h3⟩ | ⟨j, hj, h1, h2, h3, h4⟩
  · refine .inl ⟨fun i hi => ?_, by rw [hD, h2], h3⟩
    rcases Nat.lt_or_ge i I.length with h | h
    · rw [bx_snoc_lt h]; exact h1 i h
    · rw [show i = I.length from by omega, bx_snoc_at]; exact hx
  · refine .inr ⟨j, by omega, by rw [bx_snoc_lt hj]; exact h1, fun i h5 h6 => ?_, by rw [hD, h3, bx_snoc_lt hj, int_snoc_lt (by omega)], by rw [bx_snoc_lt hj]; exact h4⟩
    rcases Nat.lt_or_ge i I.length with h | h
    · rw [bx_snoc_lt h]; exact h2 i h5 h
    · rw [show i = I.length from by omega, bx_snoc_at]; exact hx
/-- The row that a look has. -/
theorem lastOf_row {I : List Bx} {A : List Int} {P : List Pr} {pid e s : Int} {r : Pr} {EE : Bool} (h : LastOf I A P pid e s) (hr : RowP P pid r EE) :
    (r = ⟨pid, 0, 0, 0, 0⟩ ∧ e = 0 ∧ s = 0) ∨ ∃ j, j < I.length ∧ (I.getD j bx0).b.pid = pid ∧ (∀ i, j < i → i < I.length → (I.getD i bx0).b.pid ≠ pid) ∧ r = lastRow pid (I.getD j bx0) (A.getD j 0) ∧ e = r.e ∧ s = r.s + r.n := by
  rcases h with ⟨_, h2, h3⟩ | ⟨j, hj, h1, h2, h3, h4, h5⟩
  · rcases hr with ⟨h4, _⟩ | ⟨_, h4, _⟩
    · rw [h2] at h4; cases h4
    · exact .inl ⟨h4, h3⟩
  · rcases hr with ⟨h6, _⟩ | ⟨h6, _⟩
    · rw [h3] at h6
      injection h6 with h6
      subst h6
      exact .inr ⟨j, hj, h1, h2, rfl, h4, h5⟩
    · rw [h3] at h6; cases h6
theorem dlIs_new {b : Bat} {r : Pr} {n E : Int} (h : DlIs b r n false 0) : (MayB b ∧ ¬ 2 < b.kind) ∧ (b.pid = 0 ∨ (b.pid ≠ 0 ∧ r.e < b.epoch ∧ b.seq = 0) ∨ (b.pid ≠ 0 ∧ b.epoch = r.e ∧ r.n ≤ 0 ∧ b.seq = 0) ∨ (b.pid ≠ 0 ∧ b.epoch = r.e ∧ 0 < r.n ∧ b.seq = IntKind.i64.wrap (r.s + r.n))) := by
  rcases h with ⟨_, _, _, h⟩ | ⟨_, _, _, _, h⟩ | ⟨⟨h1, h2, h3⟩, h⟩
  · cases h
  · cases h
  refine ⟨⟨h1, h2⟩, ?_⟩
  rcases h with ⟨h, _⟩ | ⟨_, _, _, _, h⟩ | ⟨_, _, _, _, _, h⟩ | ⟨h4, h5, h6, _⟩ | ⟨_, _, _, _, _, _, h⟩ | ⟨h4, h5, h6, h7, _⟩ | ⟨_, _, _, _, _, h, _⟩ | ⟨_, _, _, _, _, _, _, h⟩ | ⟨h4, h5, h6, _, h7, _⟩
  · exact .inl h
  · cases h
  · cases h
  · exact .inr (.inl ⟨h4, h5, h6⟩)
  · cases h
  · exact .inr (.inr (.inl ⟨h4, h5, h6, h7⟩))
  · cases h
  · cases h
  · exact .inr (.inr (.inr ⟨h4, h5, h6, h7⟩))
theorem dlIs_dup {b : Bat} {r : Pr} {n E : Int} (h : DlIs b r n true E) : (MayB b ∧ ¬ 2 < b.kind) ∧ b.pid ≠ 0 ∧ b.epoch = r.e ∧ 0 < r.n ∧ b.seq = r.s ∧ (b.l.length : Int) = r.n ∧ n = r.b ∧ E = 0 := by
  rcases h with ⟨_, _, h, _⟩ | ⟨_, _, _, h, _⟩ | ⟨⟨h1, h2, h3⟩, h⟩
  · cases h
  · cases h
  refine ⟨⟨h1, h2⟩, ?_⟩
  rcases h with ⟨_, _, h, _⟩ | ⟨_, _, _, h, _⟩ | ⟨_, _, _, _, h, _⟩ | ⟨_, _, _, _, h, _⟩ | ⟨_, _, _, _, _, h, _⟩ | ⟨_, _, _, _, _, h, _⟩ | ⟨h4, h5, h6, h7, h8, _, h9⟩ | ⟨_, _, _, _, _, _, h, _⟩ | ⟨_, _, _, _, _, _, h, _⟩
  all_goals first | (cases h; done) | exact ⟨h4, h5, h6, h7.1, h7.2, h8, h9⟩
theorem dlIs_err {b : Bat} {r : Pr} {n E : Int} {d : Bool} (h : DlIs b r n d E) (hE : E ≠ 0) : n = 0 ∧ d = false := by
  rcases h with ⟨_, h, h', _⟩ | ⟨_, _, h, h', _⟩ | ⟨_, h⟩
  · exact ⟨h, h'⟩
  · exact ⟨h, h'⟩
  rcases h with ⟨_, _, _, h⟩ | ⟨_, _, h, h', _⟩ | ⟨_, _, _, h, h', _⟩ | ⟨_, _, _, _, _, h⟩ | ⟨_, _, _, _, h, h', _⟩ | ⟨_, _, _, _, _, _, h⟩ | ⟨_, _, _, _, _, _, h⟩ | ⟨_, _, _, _, _, h, h', _⟩ | ⟨_, _, _, _, _, _, _, h⟩
  all_goals first | exact ⟨h, h'⟩ | exact absurd h hE
theorem i64_wrap_in {s n : Int} (h : 0 ≤ s ∧ s ≤ 1099511627776) (h2 : 0 ≤ n ∧ n ≤ 64) : IntKind.i64.wrap (s + n) = s + n := IntWalk.i64_in _ (by omega)
theorem letInv_row {I : List Bx} {A : List Int} {P : List Pr} {next pid : Int} {r : Pr} {EE : Bool} (h : LetInv I A P next) (h0 : pid ≠ 0) (hr : RowP P pid r EE) :
    ∃ e s, foldS pid I = some (e, s) ∧ LastOf I A P pid e s ∧ ((r = ⟨pid, 0, 0, 0, 0⟩ ∧ e = 0 ∧ s = 0) ∨
      ∃ j, j < I.length ∧ (I.getD j bx0).b.pid = pid ∧ (∀ i, j < i → i < I.length → (I.getD i bx0).b.pid ≠ pid) ∧ r = lastRow pid (I.getD j bx0) (A.getD j 0) ∧ e = r.e ∧ s = r.s + r.n ∧ 0 < r.n ∧ r.n ≤ 64 ∧ 0 ≤ r.s ∧ r.s ≤ 1099511627776) := by
  obtain ⟨e, s, h1, h2⟩ := h.last pid h0
  refine ⟨e, s, h1, h2, ?_⟩
  rcases lastOf_row h2 hr with h3 | ⟨j, hj, h3, h4, h5, h6, h7⟩
  · exact .inl h3
  · have hm := h.may (I.getD j bx0) (getD_mem I bx0 j hj)
    have hp := may_pos hm.1 hm.2
    refine .inr ⟨j, hj, h3, h4, h5, h6, h7, ?_⟩
    rw [h5]
    unfold lastRow
    simp only
    omega
theorem letInv_step {I : List Bx} {A : List Int} {P D : List Pr} {next n : Int} {x : Bx} {r : Pr} {EE : Bool} (h : LetInv I A P next) (hr : RowP P x.b.pid r EE) (hd : DlIs x.b r n false 0)
    (hD : NtIs x.b ⟨x.b.pid, x.b.epoch, x.b.seq, x.b.l.length, next⟩ false P D) (hDl : D.length ≤ P.length + 1) : LetInv (I ++ [x]) (A ++ [next]) D (next + x.b.l.length) := by
  obtain ⟨hm, hc⟩ := dlIs_new (E := 0) hd
  have hp := may_pos hm.1 hm.2
  refine ⟨by simp [h.al], fun y hy => ?_, ?_, by simp; have := h.pl; omega, ?_, fun pid h0 => ?_⟩
  · rcases List.mem_append.1 hy with hy | hy
    · exact h.may y hy
    · rw [List.mem_singleton.1 hy]; exact hm
  · have := h.nx; simp; omega
  · by_cases hx0 : x.b.pid = 0
    · rcases hD with ⟨_, rfl⟩ | ⟨h1, _⟩ | ⟨h1, _⟩
      · exact h.z
      · exact absurd hx0 h1
      · exact absurd hx0 h1
    · rw [ntIs_getR hD hx0 rfl, if_neg (fun hh => hx0 hh.symm)]; exact h.z
  · obtain ⟨e, s, hf, hl⟩ := h.last pid h0
    by_cases hx : x.b.pid = pid
    · subst hx
      obtain ⟨e', s', hf', hl', hrow⟩ := letInv_row h h0 hr
      rw [hf] at hf'
      injection hf' with hf'
      injection hf' with e1 e2
      subst e1 e2
      refine ⟨x.b.epoch, x.b.seq + x.b.l.length, ?_, .inr ⟨I.length, by simp, by rw [bx_snoc_at], fun i h1 h2 => by simp at h2; omega, ?_, by rw [bx_snoc_at], by rw [bx_snoc_at]⟩⟩
      · rw [foldS_snoc, hf]
        unfold stepS
        have key : ¬ x.b.epoch < e ∧ x.b.seq = (if e < x.b.epoch then 0 else s) := by
          rcases hc with hc | ⟨_, h1, h2⟩ | ⟨_, h1, h2, h3⟩ | ⟨_, h1, h2, h3⟩
          · exact absurd hc h0
          · have he : e = r.e := by
              rcases hrow with ⟨rfl, h4, _⟩ | ⟨_, _, _, _, _, h4, _⟩
              · exact h4
              · exact h4
            rw [he, if_pos h1]; exact ⟨by omega, h2⟩
          · rcases hrow with ⟨rfl, h4, h5⟩ | ⟨_, _, _, _, _, _, _, h4, _⟩
            · simp only at h1
              rw [h4, h5, if_neg (by omega)]; exact ⟨by omega, h3⟩
            · omega
          · rcases hrow with ⟨rfl, _⟩ | ⟨_, _, _, _, _, h4, h5, h6, h7, h8, h9⟩
            · simp only at h2; omega
            · rw [i64_wrap_in ⟨h8, h9⟩ ⟨by omega, h7⟩] at h3
              rw [h4, h5, if_neg (by omega)]; exact ⟨by omega, h3⟩
        simp only [ne_eq, not_true_eq_false, if_false]
        rw [if_neg key.1, if_pos key.2]
      · rw [ntIs_getR hD h0 rfl, if_pos rfl, bx_snoc_at]
        have : (A ++ [next]).getD I.length 0 = next := by rw [← h.al]; simp [List.getD_eq_getElem?_getD]
        rw [this]; rfl
    · refine ⟨e, s, by rw [foldS_snoc, hf]; unfold stepS; simp only; rw [if_pos hx], lastOf_other hl h.al hx ?_⟩
      by_cases hx0 : x.b.pid = 0
      · rcases hD with ⟨_, rfl⟩ | ⟨h1, _⟩ | ⟨h1, _⟩
        · rfl
        · exact absurd hx0 h1
        · exact absurd hx0 h1
      · rw [ntIs_getR hD hx0 rfl, if_neg (fun hh => hx hh.symm)]
/-- One that is known stands among those that were let in. -/
theorem letInv_dup {I : List Bx} {A : List Int} {P : List Pr} {next n E : Int} {b : Bat} {r : Pr} {EE : Bool} (h : LetInv I A P next) (hr : RowP P b.pid r EE) (hd : DlIs b r n true E) :
    ∃ j, j < I.length ∧ A.getD j 0 = n ∧ (I.getD j bx0).b.pid = b.pid ∧ (I.getD j bx0).b.epoch = b.epoch ∧ (I.getD j bx0).b.seq = b.seq ∧ (I.getD j bx0).b.l.length = b.l.length := by
  obtain ⟨hm, h0, h1, h2, h3, h4, h5, h6⟩ := dlIs_dup hd
  obtain ⟨e, s, _, _, ⟨rfl, _⟩ | ⟨j, hj, h7, _, rfl, _⟩⟩ := letInv_row h h0 hr
  · simp only at h2; omega
  · unfold lastRow at h1 h3 h4 h5
    simp only at h1 h3 h4 h5
    exact ⟨j, hj, h5.symm, h7, h1.symm, h3.symm, by omega⟩
theorem letInv_i {I : List Bx} {A : List Int} {P : List Pr} {next pid : Int} {r : Pr} {EE : Bool} (h : LetInv I A P next) (hr : RowP P pid r EE) : I64 r.s ∧ I64 r.n := by
  by_cases h0 : pid = 0
  · subst h0
    rcases hr with ⟨h1, _⟩ | ⟨_, rfl, _⟩
    · rw [h.z] at h1; cases h1
    · unfold I64; simp
  · obtain ⟨_, _, _, _, ⟨rfl, _⟩ | ⟨_, _, _, _, _, _, _, h1, h2, h3, h4⟩⟩ := letInv_row h h0 hr
    · unfold I64; simp
    · unfold I64; omega
end Go.Proofs.Ytfjnmjibifefgaa
