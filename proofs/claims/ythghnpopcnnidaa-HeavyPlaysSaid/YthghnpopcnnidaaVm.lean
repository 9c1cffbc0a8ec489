/- Plain mathematics of chapter 1: integers and texts as bytes, on lists. No program is imported. -/
import GoSem.Claim
namespace Go.Proofs.Ythghnpopcnnidaa.Vm

/-- The bytes of a natural number, the lowest group of seven bits first. -/
def enc (u : Nat) : List UInt8 := if u < 128 then [UInt8.ofNat u] else UInt8.ofNat (u % 128 + 128) :: enc (u / 128)
termination_by u
decreasing_by omega

def zig (n : Int) : Nat := if n < 0 then (-2 * n - 1).toNat else (2 * n).toNat
def unzig (u : Nat) : Int := if u % 2 = 1 then -((u / 2 : Nat) : Int) - 1 else ((u / 2 : Nat) : Int)
def I64 (n : Int) : Prop := -9223372036854775808 ≤ n ∧ n ≤ 9223372036854775807
def putL (n : Int) : List UInt8 := enc (zig n)

theorem zig_lt {n : Int} (h : I64 n) : zig n < 18446744073709551616 := by unfold I64 at h; unfold zig; split <;> omega
theorem unzig_zig (n : Int) : unzig (zig n) = n := by unfold unzig zig; split <;> split <;> omega
theorem zig_unzig (u : Nat) : zig (unzig u) = u := by unfold unzig zig; split <;> split <;> omega
theorem unzig_i64 {u : Nat} (h : u < 18446744073709551616) : I64 (unzig u) := by unfold I64 unzig; split <;> omega
theorem zig_inj {a b : Int} (h : zig a = zig b) : a = b := by rw [← unzig_zig a, h, unzig_zig]

theorem enc_small {u : Nat} (h : u < 128) : enc u = [UInt8.ofNat u] := by rw [enc, if_pos h]
theorem enc_big {u : Nat} (h : ¬ u < 128) : enc u = UInt8.ofNat (u % 128 + 128) :: enc (u / 128) := by rw [enc, if_neg h]
theorem toNat_small {u : Nat} (h : u < 256) : (UInt8.ofNat u).toNat = u := by simp; omega

/-- The groups up to the first byte below 128. -/
def decB : List UInt8 → Option (Nat × List UInt8)
  | [] => none
  | c :: r => if c.toNat < 128 then some (c.toNat, r) else
    match decB r with
    | none => none
    | some (v, r') => some (c.toNat - 128 + 128 * v, r')

theorem decB_enc (u : Nat) (rest : List UInt8) : decB (enc u ++ rest) = some (u, rest) := by
  induction u using Nat.strongRecOn with
  | _ u ih =>
    by_cases h : u < 128
    · rw [enc_small h]
      simp only [List.singleton_append, decB]
      rw [toNat_small (by omega), if_pos h]
    · rw [enc_big h, List.cons_append, decB, toNat_small (by omega), if_neg (by omega), ih (u / 128) (by omega)]
      simp only
      congr 2
      omega

/-- What bytes begin with: a number in its one encoding, or nothing. -/
def takeL (s : List UInt8) : Option (Int × List UInt8) :=
  match decB s with
  | none => none
  | some (u, rest) => if u < 18446744073709551616 ∧ enc u ++ rest = s then some (unzig u, rest) else none

theorem takeL_put {n : Int} (h : I64 n) (rest : List UInt8) : takeL (putL n ++ rest) = some (n, rest) := by
  unfold takeL putL
  rw [decB_enc]
  simp [zig_lt h, unzig_zig]

theorem takeL_some {s rest : List UInt8} {n : Int} (h : takeL s = some (n, rest)) : I64 n ∧ s = putL n ++ rest := by
  unfold takeL at h
  split at h
  · cases h
  · next u r hd =>
    split at h
    · next hc =>
      cases h
      exact ⟨unzig_i64 hc.1, by unfold putL; rw [zig_unzig]; exact hc.2.symm⟩
    · cases h

theorem takeL_none {s : List UInt8} (h : ∀ n rest, I64 n → s ≠ putL n ++ rest) : takeL s = none := by
  cases hs : takeL s with
  | none => rfl
  | some p => exact absurd (takeL_some (n := p.1) (rest := p.2) hs).2 (h _ _ (takeL_some (n := p.1) (rest := p.2) hs).1)

theorem enc_len_pos (u : Nat) : 0 < (enc u).length := by
  by_cases h : u < 128
  · rw [enc_small h]; simp
  · rw [enc_big h]; simp

theorem enc_len_le (k : Nat) : ∀ u : Nat, u < 128 ^ (k + 1) → (enc u).length ≤ k + 1 := by
  induction k with
  | zero => intro u h; rw [enc_small (by omega)]; simp
  | succ k ih =>
    intro u h
    by_cases hs : u < 128
    · rw [enc_small hs]; simp
    · rw [enc_big hs, List.length_cons]
      have := ih (u / 128) (by rw [Nat.pow_succ] at h; omega)
      omega

theorem putL_len {n : Int} (h : I64 n) : (putL n).length ≤ 10 := enc_len_le 9 _ (by have := zig_lt h; omega)
theorem putL_pos (n : Int) : 0 < (putL n).length := enc_len_pos _

theorem putL_inj_append {a b : Int} {x y : List UInt8} (h : putL a ++ x = putL b ++ y) : a = b ∧ x = y := by
  have h1 := decB_enc (zig a) x
  have h2 := decB_enc (zig b) y
  unfold putL at h
  rw [h, h2] at h1
  injection h1 with h1
  injection h1 with h1 h3
  exact ⟨(zig_inj h1).symm, h3.symm⟩

/-- Groups that go on; their value. -/
def Cont (l : List UInt8) : Prop := ∀ b ∈ l, 128 ≤ b.toNat
def val : List UInt8 → Nat
  | [] => 0
  | b :: r => b.toNat - 128 + 128 * val r
theorem val_lt (l : List UInt8) : val l < 128 ^ l.length := by
  induction l with
  | nil => simp [val]
  | cons b r ih =>
    have := b.toNat_lt
    rw [val, List.length_cons, Nat.pow_succ]
    omega
theorem val_snoc (l : List UInt8) (b : UInt8) : val (l ++ [b]) = val l + (b.toNat - 128) * 128 ^ l.length := by
  induction l with
  | nil => simp [val]
  | cons c r ih =>
    rw [List.cons_append, val, ih, val, List.length_cons, Nat.pow_succ, Nat.mul_add]
    have e : 128 * ((b.toNat - 128) * 128 ^ r.length) = (b.toNat - 128) * (128 ^ r.length * 128) := by
      rw [Nat.mul_comm 128, Nat.mul_assoc]
    omega
theorem Cont.snoc {l : List UInt8} (h : Cont l) {b : UInt8} (hb : 128 ≤ b.toNat) : Cont (l ++ [b]) := by
  intro c hc
  rcases List.mem_append.1 hc with h1 | h1
  · exact h c h1
  · rw [List.mem_singleton.1 h1]; exact hb
theorem Cont.tail {b : UInt8} {l : List UInt8} (h : Cont (b :: l)) : 128 ≤ b.toNat ∧ Cont l := ⟨h b (by simp), fun c hc => h c (by simp [hc])⟩

theorem decB_app (p t : List UInt8) (h : Cont p) : decB (p ++ t) = (decB t).map fun x => (val p + x.1 * 128 ^ p.length, x.2) := by
  induction p with
  | nil => cases hd : decB t <;> simp [val, hd]
  | cons b p ih =>
    obtain ⟨h1, h2⟩ := h.tail
    rw [List.cons_append, decB, if_neg (by omega), ih h2]
    cases decB t with
    | none => rfl
    | some x =>
      simp only [Option.map_some, val, List.length_cons]
      refine congrArg some (Prod.ext ?_ rfl)
      show b.toNat - 128 + 128 * (val p + x.1 * 128 ^ p.length) = b.toNat - 128 + 128 * val p + x.1 * 128 ^ (p.length + 1)
      rw [Nat.pow_succ, Nat.mul_add]
      have e : 128 * (x.1 * 128 ^ p.length) = x.1 * (128 ^ p.length * 128) := by rw [Nat.mul_comm 128, Nat.mul_assoc]
      omega
theorem decB_end (p : List UInt8) (h : Cont p) : decB p = none := by
  have := decB_app p [] h
  simpa [decB] using this
theorem decB_at (p r : List UInt8) (c : UInt8) (h : Cont p) (hc : c.toNat < 128) : decB (p ++ c :: r) = some (val p + c.toNat * 128 ^ p.length, r) := by
  rw [decB_app p _ h, decB, if_pos hc]; rfl

theorem enc_val (p : List UInt8) (c : UInt8) (h : Cont p) (hc : c.toNat < 128) (h0 : p = [] ∨ c.toNat ≠ 0) : enc (val p + c.toNat * 128 ^ p.length) = p ++ [c] := by
  induction p with
  | nil => simp [val]; rw [enc_small hc]; simp
  | cons b p ih =>
    obtain ⟨h1, h2⟩ := h.tail
    have hcz : c.toNat ≠ 0 := by rcases h0 with h0 | h0; cases h0; exact h0
    have hpos : 1 ≤ 128 ^ p.length := Nat.pos_of_ne_zero (by simp)
    have hb := b.toNat_lt
    have e : val (b :: p) + c.toNat * 128 ^ (b :: p).length = (b.toNat - 128) + 128 * (val p + c.toNat * 128 ^ p.length) := by
      rw [val, List.length_cons, Nat.pow_succ, Nat.mul_add]
      have e : 128 * (c.toNat * 128 ^ p.length) = c.toNat * (128 ^ p.length * 128) := by rw [Nat.mul_comm 128, Nat.mul_assoc]
      omega
    have hbig : 1 ≤ c.toNat * 128 ^ p.length := Nat.mul_pos (by omega) hpos
    rw [e, enc_big (by omega), List.cons_append, show ((b.toNat - 128) + 128 * (val p + c.toNat * 128 ^ p.length)) / 128 = val p + c.toNat * 128 ^ p.length from by omega, ih h2 (.inr hcz)]
    congr 1
    rw [show ((b.toNat - 128) + 128 * (val p + c.toNat * 128 ^ p.length)) % 128 + 128 = b.toNat from by omega]
    simp

theorem take_done (p r : List UInt8) (c : UInt8) (h : Cont p) (hc : c.toNat < 128) (hl : p.length ≤ 9) (h0 : p = [] ∨ c.toNat ≠ 0) (h9 : p.length = 9 → c.toNat ≤ 1) :
    takeL (p ++ c :: r) = some (unzig (val p + c.toNat * 128 ^ p.length), r) := by
  unfold takeL
  rw [decB_at p r c h hc]
  have hv := val_lt p
  have hb : val p + c.toNat * 128 ^ p.length < 18446744073709551616 := by
    by_cases e : p.length = 9
    · rw [e] at hv ⊢
      have := h9 e
      have : c.toNat * 128 ^ 9 ≤ 1 * 128 ^ 9 := Nat.mul_le_mul_right _ this
      omega
    · have h1 : 128 ^ p.length ≤ 128 ^ 8 := Nat.pow_le_pow_right (by omega) (by omega)
      have h2 : c.toNat * 128 ^ p.length ≤ 127 * 128 ^ 8 := Nat.mul_le_mul (by omega) h1
      omega
  simp only
  rw [if_pos ⟨hb, by rw [enc_val p c h hc h0]; simp⟩]
theorem take_zero (p r : List UInt8) (c : UInt8) (h : Cont p) (hc : c.toNat = 0) (hp : p ≠ []) : takeL (p ++ c :: r) = none := by
  unfold takeL
  rw [decB_at p r c h (by omega)]
  simp only
  rw [if_neg]
  rintro ⟨_, he⟩
  have hl := congrArg List.length he
  simp only [List.length_append, List.length_cons] at hl
  have hv := val_lt p
  have hp1 : 0 < p.length := List.length_pos_iff.2 hp
  have := enc_len_le (p.length - 1) (val p + c.toNat * 128 ^ p.length) (by rw [hc, show p.length - 1 + 1 = p.length from by omega]; omega)
  omega
theorem take_big (p r : List UInt8) (c : UInt8) (h : Cont p) (hl : p.length = 9) (hc : c.toNat < 128) (h1 : 1 < c.toNat) : takeL (p ++ c :: r) = none := by
  unfold takeL
  rw [decB_at p r c h hc]
  simp only
  rw [if_neg]
  rintro ⟨hb, _⟩
  rw [hl] at hb
  have : 2 * 128 ^ 9 ≤ c.toNat * 128 ^ 9 := Nat.mul_le_mul_right _ h1
  omega
theorem take_ten (p r : List UInt8) (h : Cont p) (hl : p.length = 10) : takeL (p ++ r) = none := by
  unfold takeL
  rw [decB_app p r h]
  cases hd : decB r with
  | none => rfl
  | some x =>
    simp only [Option.map_some]
    rw [if_neg]
    rintro ⟨hb, he⟩
    have hx : x.1 = 0 := by
      rcases Nat.eq_zero_or_pos x.1 with h0 | h0
      · exact h0
      · rw [hl] at hb
        have : 1 * 128 ^ 10 ≤ x.1 * 128 ^ 10 := Nat.mul_le_mul_right _ h0
        omega
    have hv := val_lt p
    rw [hl] at hv
    rw [hx] at he hb
    have hlen := enc_len_le 9 (val p + 0 * 128 ^ p.length) (by rw [Nat.zero_mul]; exact hv)
    have hdl : x.2.length < r.length := by
      have : ∀ (r : List UInt8) (y : Nat × List UInt8), decB r = some y → y.2.length < r.length := by
        intro r
        induction r with
        | nil => intro y hy; cases hy
        | cons b r ih =>
          intro y hy
          rw [decB] at hy
          split at hy
          · cases hy; simp
          · split at hy
            · cases hy
            · next v r' hr =>
              have := ih _ hr
              cases hy
              simp at this ⊢; omega
      exact this r x hd
    have hl2 := congrArg List.length he
    simp only [List.length_append] at hl2
    omega
theorem take_end (p : List UInt8) (h : Cont p) : takeL p = none := by
  unfold takeL
  rw [decB_end p h]

/-- The value of any groups, taken modulo 128 each. -/
def vv : List UInt8 → Nat
  | [] => 0
  | b :: r => b.toNat % 128 + 128 * vv r
theorem vv_cont (p : List UInt8) (c : UInt8) (h : Cont p) (hc : c.toNat < 128) : vv (p ++ [c]) = val p + c.toNat * 128 ^ p.length := by
  induction p with
  | nil => simp [vv, val]; omega
  | cons b p ih =>
    obtain ⟨h1, h2⟩ := h.tail
    have hb := b.toNat_lt
    rw [List.cons_append, vv, ih h2, val, List.length_cons, Nat.pow_succ, Nat.mul_add]
    have e : 128 * (c.toNat * 128 ^ p.length) = c.toNat * (128 ^ p.length * 128) := by rw [Nat.mul_comm 128, Nat.mul_assoc]
    omega
/-- The reference's own test: the groups' value modulo 64 bits, put again, are these groups. -/
theorem ref_yes (p r : List UInt8) (c : UInt8) (h : Cont p) (hc : c.toNat < 128) (he : enc (vv (p ++ [c]) % 18446744073709551616) = p ++ [c]) :
    takeL (p ++ c :: r) = some (unzig (vv (p ++ [c]) % 18446744073709551616), r) := by
  have h1 := decB_enc (vv (p ++ [c]) % 18446744073709551616) r
  rw [he] at h1
  have h2 := decB_at p r c h hc
  rw [show p ++ [c] ++ r = p ++ c :: r from by simp] at h1
  unfold takeL
  rw [h1]
  simp only
  rw [if_pos ⟨Nat.mod_lt _ (by omega), by rw [he]; simp⟩]
theorem ref_no (p r : List UInt8) (c : UInt8) (h : Cont p) (hc : c.toNat < 128) (he : enc (vv (p ++ [c]) % 18446744073709551616) ≠ p ++ [c]) :
    takeL (p ++ c :: r) = none := by
  unfold takeL
  rw [decB_at p r c h hc]
  simp only
  rw [if_neg]
  rintro ⟨hb, h1⟩
  apply he
  rw [vv_cont p c h hc, Nat.mod_eq_of_lt hb]
  have e : p ++ c :: r = p ++ [c] ++ r := by simp
  rw [e] at h1
  exact List.append_cancel_right h1

theorem enc_lt (u : Nat) : u < 128 ^ (enc u).length := by
  induction u using Nat.strongRecOn with
  | _ u ih =>
    by_cases h : u < 128
    · rw [enc_small h]; simpa using h
    · rw [enc_big h, List.length_cons, Nat.pow_succ]
      have := ih (u / 128) (by omega)
      omega
theorem enc_ge (u : Nat) (h : 1 < (enc u).length) : 128 ^ ((enc u).length - 1) ≤ u := by
  have : ∀ k, ∀ u : Nat, (enc u).length = k + 2 → 128 ^ (k + 1) ≤ u := by
    intro k
    induction k with
    | zero =>
      intro u hu
      by_cases hs : u < 128
      · rw [enc_small hs] at hu; simp at hu
      · omega
    | succ k ih =>
      intro u hu
      by_cases hs : u < 128
      · rw [enc_small hs] at hu; simp at hu
      · rw [enc_big hs, List.length_cons] at hu
        have := ih (u / 128) (by omega)
        rw [Nat.pow_succ]
        omega
  have h2 := this ((enc u).length - 2) u (by omega)
  rwa [show (enc u).length - 2 + 1 = (enc u).length - 1 from by omega] at h2

/-- What Take answers: the number, the rest, the error. -/
def takeA (s : ByteArray) : Int × List UInt8 × Int :=
  match takeL s.data.toList with
  | none => (0, [], 2)
  | some (n, r) => (n, r, 0)

theorem takeA_put {n : Int} (h : I64 n) (s : ByteArray) (rest : List UInt8) (e : s.data.toList = putL n ++ rest) : takeA s = (n, rest, 0) := by
  unfold takeA
  rw [e, takeL_put h]
theorem takeA_cases (s : ByteArray) : takeA s = (0, [], 2) ∨ ∃ n r, takeA s = (n, r, 0) ∧ I64 n ∧ s.data.toList = putL n ++ r := by
  unfold takeA
  cases h : takeL s.data.toList with
  | none => exact .inl rfl
  | some p => exact .inr ⟨p.1, p.2, rfl, takeL_some h⟩
theorem takeL_of {s r : List UInt8} {n : Int} (e : s = putL n ++ r) (h : I64 n) : takeL s = some (n, r) := by rw [e, takeL_put h]
theorem putL_take_inj {a b : Int} (k : Nat) (hk : k = min (putL a).length (putL b).length) (h : (putL a).take k = (putL b).take k) : a = b := by
  rcases Nat.le_total (putL a).length (putL b).length with hl | hl
  · have e : k = (putL a).length := by omega
    subst e
    rw [List.take_length] at h
    have h2 : putL a ++ (putL b).drop (putL a).length = putL b ++ [] := by
      rw [List.append_nil]
      have := List.take_append_drop (putL a).length (putL b)
      rw [← h] at this
      exact this
    exact (putL_inj_append h2).1
  · have e : k = (putL b).length := by omega
    subst e
    rw [List.take_length] at h
    have h2 : putL b ++ (putL a).drop (putL b).length = putL a ++ [] := by
      rw [List.append_nil]
      have := List.take_append_drop (putL b).length (putL a)
      rw [h] at this
      exact this
    exact (putL_inj_append h2).1.symm

/-- A string of these bytes. -/
def str (l : List UInt8) : ByteArray := ⟨l.toArray⟩
theorem str_toList (l : List UInt8) : (str l).data.toList = l := by simp [str]
theorem str_data (s : ByteArray) : str s.data.toList = s := by cases s; simp [str]
theorem str_size (l : List UInt8) : (str l).size = l.length := by simp [str, ByteArray.size]
/-- So many numbers, one behind the other. -/
def takeN : Nat → List UInt8 → Option (List Int × List UInt8)
  | 0, s => some ([], s)
  | k + 1, s =>
    match takeL s with
    | none => none
    | some (v, r) =>
      match takeN k r with
      | none => none
      | some (vs, r') => some (v :: vs, r')
def putN (l : List Int) : List UInt8 := (l.map putL).flatten
theorem putN_cons (n : Int) (l : List Int) : putN (n :: l) = putL n ++ putN l := rfl
/-- Taken k of n: what is still to take. -/
theorem takeN_step {k : Nat} {s r : List UInt8} {v : Int} (h : takeL s = some (v, r)) : takeN (k + 1) s = (takeN k r).map fun p => (v :: p.1, p.2) := by
  rw [takeN, h]
  cases h2 : takeN k r <;> simp [h2]
theorem takeN_put (l : List Int) (hl : ∀ n ∈ l, I64 n) (rest : List UInt8) : takeN l.length (putN l ++ rest) = some (l, rest) := by
  induction l with
  | nil => rfl
  | cons n l ih =>
    rw [List.length_cons, putN_cons, List.append_assoc, takeN_step (takeL_put (hl n (by simp)) _), ih (fun m hm => hl m (by simp [hm]))]
    rfl
/-- Cut off ahead of their end they are fewer. -/
theorem takeL_short {n : Int} (k : Nat) (hk : k < (putL n).length) : takeL ((putL n).take k) = none := by
  cases ht : takeL ((putL n).take k) with
  | none => rfl
  | some p =>
    obtain ⟨m, r⟩ := p
    obtain ⟨_, he⟩ := takeL_some ht
    have h2 : putL n ++ [] = putL m ++ (r ++ (putL n).drop k) := by
      rw [List.append_nil, ← List.append_assoc, ← he, List.take_append_drop]
    have h3 := putL_inj_append h2
    have hl := congrArg List.length h3.2
    simp at hl
    omega
theorem takeN_cut (l : List Int) (hl : ∀ n ∈ l, I64 n) (k : Nat) (hk : k < (putN l).length) : takeN l.length ((putN l).take k) = none := by
  induction l generalizing k with
  | nil => simp [putN] at hk
  | cons n l ih =>
    rw [putN_cons] at hk ⊢
    rw [List.length_cons]
    rw [List.length_append] at hk
    by_cases hc : k < (putL n).length
    · rw [List.take_append_of_le_length (by omega), takeN, takeL_short k hc]
    · rw [List.take_append, List.take_of_length_le (by omega), takeN_step (takeL_put (hl n (by simp)) _), ih (fun m hm => hl m (by simp [hm])) _ (by omega)]
      rfl
theorem takeN_fail {k : Nat} {s : List UInt8} (h : takeL s = none) : takeN (k + 1) s = none := by
  rw [takeN, h]
theorem takeN_len {n : Nat} {s r : List UInt8} {vs : List Int} (h : takeN n s = some (vs, r)) : vs.length = n := by
  induction n generalizing s vs with
  | zero => cases h; rfl
  | succ k ih =>
    rw [takeN] at h
    split at h
    · cases h
    · next v r' _ =>
      split at h
      · cases h
      · next vs' r'' hh => cases h; simp [ih hh]

/-- What TakeText answers: the text, the rest, the error. -/
def textA (s : ByteArray) (most : Int) : List UInt8 × List UInt8 × Int :=
  match takeL s.data.toList with
  | none => ([], [], 2)
  | some (n, r) => if n < 0 ∨ most < n ∨ (r.length : Int) < n then ([], [], 2) else (r.take n.toNat, r.drop n.toNat, 0)
theorem textA_put (s : ByteArray) (l r : List UInt8) (most : Int) (hl : l.length ≤ 9223372036854775807) (hm : (l.length : Int) ≤ most) (e : s.data.toList = putL l.length ++ (l ++ r)) : textA s most = (l, r, 0) := by
  unfold textA
  rw [e, takeL_put ⟨by omega, by omega⟩]
  simp only
  rw [if_neg (by simp; omega)]
  simp
theorem textA_less (s : ByteArray) (l r : List UInt8) (most : Int) (hl : l.length ≤ 9223372036854775807) (hm : most < (l.length : Int)) (e : s.data.toList = putL l.length ++ (l ++ r)) : textA s most = ([], [], 2) := by
  unfold textA
  rw [e, takeL_put ⟨by omega, by omega⟩]
  simp only
  rw [if_pos (by omega)]
theorem str_append (l : List UInt8) (s : ByteArray) : (str l ++ s).data.toList = l ++ s.data.toList := by
  rw [ByteArray.data_append]
  simp [str]
end Go.Proofs.Ythghnpopcnnidaa.Vm
