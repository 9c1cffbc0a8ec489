/- Plain mathematics of counting numbers in sketches: order, parts, shares. -/
import Derived.Test.YtbljhmcenjmjjaaBkAdd2
namespace Go.Proofs.Ytbljhmcenjmjjaa
open Go.RowKit Vm Sk
set_option linter.unusedVariables false

theorem putB_twice (l : List Bk) (b m n : Int) : putB (putB l b m) b n = putB l b (n + m) := by
  induction l with
  | nil => simp [putB]
  | cons x t ih =>
    by_cases h : x.b < b
    · simp only [putB, if_pos h, ih]
    · by_cases h2 : x.b = b
      · simp only [putB, if_neg h, if_pos h2, Int.lt_irrefl, if_false, if_true]
        rw [Int.add_assoc]
      · simp only [putB, if_neg h, if_neg h2, Int.lt_irrefl, if_false, if_true]
theorem putB_past (t : List Bk) : ∀ (l : List Bk) (b n : Int), putB (mergeB l t) b n = mergeB (putB l b n) t := by
  induction t with
  | nil => intro l b n; rfl
  | cons x t ih =>
    intro l b n
    show putB (mergeB (putB l x.b x.n) t) b n = mergeB (putB (putB l b n) x.b x.n) t
    rw [ih, putB_comm]
theorem mergeB_put (m : List Bk) : ∀ (l : List Bk) (b n : Int), mergeB l (putB m b n) = putB (mergeB l m) b n := by
  induction m with
  | nil => intro l b n; rfl
  | cons x t ih =>
    intro l b n
    rw [putB]
    split
    · show mergeB (putB l x.b x.n) (putB t b n) = putB (mergeB (putB l x.b x.n) t) b n
      rw [ih]
    · split
      · next h =>
        subst h
        show mergeB (putB l x.b (n + x.n)) t = putB (mergeB (putB l x.b x.n) t) x.b n
        rw [putB_past, putB_twice]
      · show mergeB (putB (putB l b n) x.b x.n) t = putB (mergeB (putB l x.b x.n) t) b n
        rw [putB_past, putB_comm]
theorem addB_snoc (l : List Bk) (vs : List Int) (v : Int) : addB l (vs ++ [v]) = putB (addB l vs) (ofI v) 1 := by unfold addB; rw [List.foldl_append]; rfl
theorem addB_app (l : List Bk) (vs us : List Int) : addB l (vs ++ us) = addB (addB l vs) us := by unfold addB; rw [List.foldl_append]
theorem mergeB_add (l : List Bk) (n : Nat) : ∀ vs : List Int, vs.length = n → mergeB l (addB [] vs) = addB l vs := by
  induction n with
  | zero => intro vs h; rw [List.eq_nil_of_length_eq_zero h]; rfl
  | succ n ih =>
    intro vs h
    have hk : n < vs.length := by omega
    have e : vs = vs.take n ++ [vs[n]] := by
      rw [← List.take_succ_eq_append_getElem hk, List.take_of_length_le (by omega)]
    rw [e, addB_snoc, addB_snoc, mergeB_put, ih _ (by rw [List.length_take]; omega)]
theorem addB_perm {vs us : List Int} (h : vs.Perm us) : addB [] vs = addB [] us := by
  unfold addB
  exact List.Perm.foldl_eq' h (fun x _ y _ z => putB_comm z (ofI x) (ofI y) 1 1) []
theorem addB_parts (vs : List Int) (k : Nat) : mergeB (addB [] (vs.drop k)) (addB [] (vs.take k)) = addB [] vs := by
  rw [mergeB_add _ _ _ rfl, ← addB_app]
  apply addB_perm
  refine List.perm_append_comm.trans ?_
  rw [List.take_append_drop]
theorem addB_reverse (vs : List Int) : addB [] vs.reverse = addB [] vs := addB_perm (List.reverse_perm vs)
theorem may_nil : MayS [] := ⟨Pre.zero _, by simp [sumN]⟩
theorem addB_may {l : List Bk} (hl : MayS l) : ∀ (n : Nat) (vs : List Int), vs.length = n → (∀ v ∈ vs, I64 v) → sumN l + (vs.length : Int) ≤ 1099511627776 → MayS (addB l vs) ∧ sumN (addB l vs) = sumN l + (vs.length : Int) := by
  intro n
  induction n with
  | zero => intro vs h _ _; rw [List.eq_nil_of_length_eq_zero h]; exact ⟨hl, by simp [addB]⟩
  | succ n ih =>
    intro vs h hv hs
    have hk : n < vs.length := by omega
    have e : vs = vs.take n ++ [vs[n]] := by
      rw [← List.take_succ_eq_append_getElem hk, List.take_of_length_le (by omega)]
    have hln : (vs.take n).length = n := by rw [List.length_take]; omega
    obtain ⟨h1, h2⟩ := ih (vs.take n) hln (fun v hx => hv v (List.mem_of_mem_take hx)) (by rw [hln]; omega)
    rw [e, addB_snoc, putB_sum, h2]
    have hi := hv vs[n] (List.getElem_mem hk)
    refine ⟨putB_may h1 (ofI_in hi) (by omega) (by rw [h2, hln]; omega), ?_⟩
    rw [List.length_append]; simp; omega
theorem adIs_nil {vs : List Int} (hn : vs.length ≤ 200) : AdIs [] vs (addB [] vs) 0 := .inr (.inr ⟨may_nil, by simp [sumN]; omega, rfl, rfl⟩)
/-- How many numbers lie in buckets up to this one, and below it. -/
def cntLe : List Bk → Int → Int
  | [], _ => 0
  | x :: t, b => (if x.b ≤ b then x.n else 0) + cntLe t b
def cntLt : List Bk → Int → Int
  | [], _ => 0
  | x :: t, b => (if x.b < b then x.n else 0) + cntLt t b
theorem cntLe_put (l : List Bk) (b n c : Int) : cntLe (putB l b n) c = cntLe l c + (if b ≤ c then n else 0) := by
  induction l with
  | nil => simp [putB, cntLe]
  | cons x t ih =>
    rw [putB]
    split
    · simp only [cntLe, ih]; omega
    · split
      · next h => subst h; simp only [cntLe]; split <;> omega
      · simp only [cntLe]; omega
theorem cntLt_put (l : List Bk) (b n c : Int) : cntLt (putB l b n) c = cntLt l c + (if b < c then n else 0) := by
  induction l with
  | nil => simp [putB, cntLt]
  | cons x t ih =>
    rw [putB]
    split
    · simp only [cntLt, ih]; omega
    · split
      · next h => subst h; simp only [cntLt]; split <;> omega
      · simp only [cntLt]; omega
theorem cntLe_add (c : Int) (vs : List Int) : ∀ l : List Bk, cntLe (addB l vs) c = cntLe l c + ((vs.countP (fun v => decide (ofI v ≤ c)) : Nat) : Int) := by
  induction vs with
  | nil => intro l; simp [addB]
  | cons v t ih =>
    intro l
    show cntLe (addB (putB l (ofI v) 1) t) c = _
    rw [ih, cntLe_put, List.countP_cons]
    by_cases h : ofI v ≤ c
    · simp [h]; omega
    · simp [h]
theorem cntLt_add (c : Int) (vs : List Int) : ∀ l : List Bk, cntLt (addB l vs) c = cntLt l c + ((vs.countP (fun v => decide (ofI v < c)) : Nat) : Int) := by
  induction vs with
  | nil => intro l; simp [addB]
  | cons v t ih =>
    intro l
    show cntLt (addB (putB l (ofI v) 1) t) c = _
    rw [ih, cntLt_put, List.countP_cons]
    by_cases h : ofI v < c
    · simp [h]; omega
    · simp [h]
theorem cntLt_none {lo : Option Int} {l : List Bk} (h : Ord lo l) {c : Int} (hc : ∀ x ∈ l, c ≤ x.b) : cntLt l c = 0 := by
  induction l generalizing lo with
  | nil => rfl
  | cons x t ih =>
    have h1 := hc x (by simp)
    rw [cntLt, if_neg (by omega), ih h.2.2.2.2 (fun y hy => hc y (by simp [hy]))]; rfl
theorem ord_above : ∀ (t : List Bk) (z : Int), Ord (some z) t → ∀ y ∈ t, z < y.b := by
  intro t
  induction t with
  | nil => intro z _ y hy; cases hy
  | cons u s ihs =>
    intro z hz y hy
    obtain ⟨_, _, _, k4, k5⟩ := hz
    have hu := k4 z rfl
    rcases List.mem_cons.1 hy with rfl | hy
    · exact hu
    · have := ihs u.b k5 y hy; omega
theorem cntLe_pos {lo : Option Int} {l : List Bk} (h : Ord lo l) (c : Int) : 0 ≤ cntLe l c := by
  induction l generalizing lo with
  | nil => simp [cntLe]
  | cons x t ih =>
    have := ih h.2.2.2.2
    have h3 := h.2.2.1
    rw [cntLe]; split <;> omega
/-- The bucket in which the k-th number lies. -/
theorem quI_tells {l : List Bk} : ∀ {lo : Option Int} {k : Int}, Ord lo l → 1 ≤ k → k ≤ sumN l → ∃ x ∈ l, quI l k = x.b ∧ cntLt l x.b < k ∧ k ≤ cntLe l x.b := by
  induction l with
  | nil => intro lo k _ h1 h2; simp [sumN] at h2; omega
  | cons x t ih =>
    intro lo k h h1 h2
    rw [quI_cons]
    rw [sumN_cons'] at h2
    have habove := ord_above t x.b h.2.2.2.2
    split
    · next hlt =>
      obtain ⟨y, hy, e1, e2, e3⟩ := ih h.2.2.2.2 (show 1 ≤ k - x.n by omega) (by omega)
      have hxy := habove y hy
      refine ⟨y, by simp [hy], e1, ?_, ?_⟩
      · rw [cntLt, if_pos hxy]; omega
      · rw [cntLe, if_pos (by omega)]; omega
    · next hge =>
      refine ⟨x, by simp, rfl, ?_, ?_⟩
      · rw [cntLt, if_neg (by omega), cntLt_none h.2.2.2.2 (fun y hy => by have := habove y hy; omega)]; omega
      · have := cntLe_pos h.2.2.2.2 x.b
        rw [cntLe, if_pos (by omega)]; omega
theorem putB_mem {l : List Bk} {b n : Int} {x : Bk} (h : x ∈ putB l b n) : x.b = b ∨ x ∈ l := by
  induction l with
  | nil => simp only [putB, List.mem_singleton] at h; left; rw [h]
  | cons y t ih =>
    rw [putB] at h
    split at h
    · rcases List.mem_cons.1 h with rfl | h
      · right; simp
      · rcases ih h with h | h
        · exact .inl h
        · right; simp [h]
    · split at h
      · rcases List.mem_cons.1 h with rfl | h
        · left; rfl
        · right; simp [h]
      · rcases List.mem_cons.1 h with rfl | h
        · left; rfl
        · right; exact h
theorem addB_mem (vs : List Int) : ∀ (l : List Bk) (x : Bk), x ∈ addB l vs → (∃ v ∈ vs, x.b = ofI v) ∨ x ∈ l := by
  induction vs with
  | nil => intro l x h; exact .inr h
  | cons v t ih =>
    intro l x h
    rcases ih (putB l (ofI v) 1) x h with ⟨u, hu, e⟩ | h
    · exact .inl ⟨u, by simp [hu], e⟩
    · rcases putB_mem h with h | h
      · exact .inl ⟨v, by simp, h⟩
      · exact .inr h
/-- What 29.5 says of a share of numbers. -/
theorem share_tells {vs : List Int} (hv : ∀ v ∈ vs, I64 v) (hn : vs.length ≤ 200) {k : Int} (h1 : 1 ≤ k) (h2 : k ≤ (vs.length : Int)) :
    ∃ b, quI (addB [] vs) k = b ∧ (-960 ≤ b ∧ b < 960) ∧ I64 (lowI b) ∧ I64 (highI b) ∧ k ≤ ((vs.countP (fun v => decide (v ≤ highI b)) : Nat) : Int) ∧ ((vs.countP (fun v => decide (v < lowI b)) : Nat) : Int) < k := by
  obtain ⟨hm, hs⟩ := addB_may may_nil vs.length vs rfl hv (by simp [sumN]; omega)
  obtain ⟨x, hx, e1, e2, e3⟩ := quI_tells (pre_ord hm.1) h1 (by rw [hs]; simp [sumN]; omega)
  rw [cntLt_add] at e2
  rw [cntLe_add] at e3
  simp only [cntLt, cntLe, Int.zero_add] at e2 e3
  obtain ⟨u, hu, hxu⟩ : ∃ v ∈ vs, x.b = ofI v := by
    rcases addB_mem vs [] x hx with h | h
    · exact h
    · cases h
  obtain ⟨t1, t2, t3, t4, t5, t6, t7, t8, t9⟩ := tells (hv u hu)
  refine ⟨x.b, e1, by rw [hxu]; exact t1, by rw [hxu]; exact t8, by rw [hxu]; exact t9, ?_, ?_⟩
  · have : vs.countP (fun v => decide (ofI v ≤ x.b)) ≤ vs.countP (fun v => decide (v ≤ highI x.b)) := by
      apply List.countP_mono_left
      intro v hvm h
      simp only [decide_eq_true_eq] at h ⊢
      rcases Int.lt_or_le (highI x.b) v with hlt | hge
      · have hmo := ofI_mono (show highI x.b ≤ v by omega)
        rw [hxu] at hmo hlt h
        rw [t5] at hmo
        have he : ofI v = ofI u := by omega
        have := (tells (hv v hvm)).2.2.1
        rw [he] at this; omega
      · exact hge
    omega
  · have : vs.countP (fun v => decide (v < lowI x.b)) ≤ vs.countP (fun v => decide (ofI v < x.b)) := by
      apply List.countP_mono_left
      intro v hvm h
      simp only [decide_eq_true_eq] at h ⊢
      have hmo := ofI_mono (show v ≤ lowI x.b by omega)
      rw [hxu] at hmo h ⊢
      rw [t4] at hmo
      rcases Int.lt_or_eq_of_le hmo with hl | he
      · exact hl
      · have := (tells (hv v hvm)).2.1
        rw [he] at this; omega
    omega
end Go.Proofs.Ytbljhmcenjmjjaa
