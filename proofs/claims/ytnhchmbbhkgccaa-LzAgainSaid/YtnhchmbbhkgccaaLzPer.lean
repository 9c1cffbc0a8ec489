/- How far each byte is behind one that is the same: the least such number; what a text is packed into. Plain mathematics. -/
import Derived.Test.YtnhchmbbhkgccaaLz
namespace Go.Proofs.Ytnhchmbbhkgccaa.Lz
open Vm
set_option linter.unusedVariables false

/-- k bytes at the beginning are those with which the first m end, but not all of these. -/
def Bd (B : List UInt8) (m k : Nat) : Prop := k < m ∧ ∀ j, j < k → B.getD j 0 = B.getD (m - k + j) 0
def Mx (B : List UInt8) (m k : Nat) : Prop := Bd B m k ∧ ∀ k', Bd B m k' → k' ≤ k
theorem bd_bd {B : List UInt8} {m k e : Nat} (h : Bd B m k) (h' : Bd B k e) : Bd B m e := by
  obtain ⟨h1, h2⟩ := h
  obtain ⟨h3, h4⟩ := h'
  refine ⟨by omega, fun j hj => ?_⟩
  rw [h4 j hj, h2 (k - e + j) (by omega)]
  congr 1; omega
theorem bd_of {B : List UInt8} {m k e : Nat} (h : Bd B m k) (h' : Bd B m e) (hlt : e < k) : Bd B k e := by
  obtain ⟨h1, h2⟩ := h
  obtain ⟨h3, h4⟩ := h'
  refine ⟨hlt, fun j hj => ?_⟩
  rw [h4 j hj, h2 (k - e + j) (by omega)]
  congr 1; omega
theorem bd_succ {B : List UInt8} {m k : Nat} (h : Bd B m k) (he : B.getD k 0 = B.getD m 0) : Bd B (m + 1) (k + 1) := by
  obtain ⟨h1, h2⟩ := h
  refine ⟨by omega, fun j hj => ?_⟩
  by_cases hjk : j < k
  · rw [h2 j hjk]; congr 1; omega
  · rw [show j = k by omega, he]; congr 1; omega
theorem bd_pred {B : List UInt8} {m k : Nat} (h : Bd B (m + 1) (k + 1)) : Bd B m k ∧ B.getD k 0 = B.getD m 0 := by
  obtain ⟨h1, h2⟩ := h
  refine ⟨⟨by omega, fun j hj => ?_⟩, ?_⟩
  · rw [h2 j (by omega)]; congr 1; omega
  · rw [h2 k (by omega)]; congr 1; omega
theorem mx_one (B : List UInt8) : Mx B 1 0 := ⟨⟨by omega, fun j hj => by omega⟩, fun k' h => by have := h.1; omega⟩
/-- While a longer one is sought. -/
def In (B : List UInt8) (i k : Nat) : Prop := Bd B i k ∧ ∀ k', Bd B i k' → B.getD k' 0 = B.getD i 0 → k' ≤ k
theorem in_start {B : List UInt8} {i k : Nat} (h : Mx B i k) : In B i k := ⟨h.1, fun k' hk _ => h.2 k' hk⟩
theorem in_step {B : List UInt8} {i k e : Nat} (h : In B i k) (hn : B.getD k 0 ≠ B.getD i 0) (he : Mx B k e) : In B i e := by
  refine ⟨bd_bd h.1 he.1, fun k' hk hb => ?_⟩
  have h1 := h.2 k' hk hb
  have h2 : k' ≠ k := fun e => hn (by rw [← e]; exact hb)
  exact he.2 k' (bd_of h.1 hk (by omega))
theorem in_yes {B : List UInt8} {i k : Nat} (h : In B i k) (he : B.getD k 0 = B.getD i 0) : Mx B (i + 1) (k + 1) := by
  refine ⟨bd_succ h.1 he, fun k' hk => ?_⟩
  cases k' with
  | zero => omega
  | succ k' =>
    obtain ⟨h1, h2⟩ := bd_pred hk
    have := h.2 k' h1 h2
    omega
theorem in_no {B : List UInt8} {i : Nat} (h : In B i 0) (hn : B.getD 0 0 ≠ B.getD i 0) : Mx B (i + 1) 0 := by
  refine ⟨⟨by omega, fun j hj => by omega⟩, fun k' hk => ?_⟩
  cases k' with
  | zero => omega
  | succ k' =>
    obtain ⟨h1, h2⟩ := bd_pred hk
    have h3 := h.2 k' h1 h2
    obtain rfl : k' = 0 := by omega
    exact absurd h2 hn
/-- The least distance at which all bytes are the same. -/
def PerIs (B : List UInt8) (p : Nat) : Prop := (B = [] ∧ p = 0) ∨ ∃ e, Mx B B.length e ∧ p = B.length - e
theorem per_le {B : List UInt8} {p : Nat} (h : PerIs B p) : p ≤ B.length := by
  rcases h with ⟨_, rfl⟩ | ⟨e, _, rfl⟩ <;> omega
theorem per_pos {B : List UInt8} {p : Nat} (h : PerIs B p) (h0 : 0 < B.length) : 1 ≤ p := by
  rcases h with ⟨rfl, _⟩ | ⟨e, h1, rfl⟩
  · simp at h0
  · have := h1.1.1; omega
theorem per_rep {B : List UInt8} {p : Nat} (h : PerIs B p) (h0 : 0 < B.length) : rep p (B.length - p) (B.take p) = B := by
  have h1 := per_pos h h0
  have h2 := per_le h
  rcases h with ⟨rfl, _⟩ | ⟨e, hm, rfl⟩
  · simp at h0
  · have h3 := hm.1.1
    rw [rep_take B _ _ _ h1 (Nat.le_refl _) (by omega) (fun j hj => ?_), show B.length - e + (B.length - (B.length - e)) = B.length by omega, List.take_length]
    rw [Nat.sub_self, Nat.zero_add, hm.1.2 j (by omega)]
/-- A text again and again. -/
def many (n : Nat) (s : List UInt8) : List UInt8 := (List.replicate n s).flatten
theorem many_succ (n : Nat) (s : List UInt8) : many (n + 1) s = many n s ++ s := by
  unfold many
  rw [List.replicate_succ', List.flatten_append]; simp
theorem many_cons (n : Nat) (s : List UInt8) : many (n + 1) s = s ++ many n s := by
  unfold many
  rw [List.replicate_succ, List.flatten_cons]
theorem many_len (n : Nat) (s : List UInt8) : (many n s).length = n * s.length := by
  induction n with
  | zero => simp [many]
  | succ n ih => rw [many_succ, List.length_append, ih, Nat.add_mul]; omega
theorem many_bd (n : Nat) (s : List UInt8) (h : 0 < s.length) : Bd (many (n + 1) s) (many (n + 1) s).length (many n s).length := by
  have e : (many (n + 1) s).length = (many n s).length + s.length := by rw [many_succ, List.length_append]
  refine ⟨by omega, fun j hj => ?_⟩
  rw [e, show (many n s).length + s.length - (many n s).length + j = s.length + j by omega]
  have h1 : (many (n + 1) s).getD j 0 = (many n s).getD j 0 := by
    rw [many_succ]; simp [List.getD, List.getElem?_append_left hj]
  have h2 : (many (n + 1) s).getD (s.length + j) 0 = (many n s).getD j 0 := by
    rw [many_cons]; simp [List.getD, List.getElem?_append_right (show s.length ≤ s.length + j by omega)]
  rw [h1, h2]
theorem per_many {n : Nat} {s : List UInt8} {p : Nat} (h : PerIs (many (n + 1) s) p) (h0 : 0 < s.length) : p ≤ s.length := by
  have e : (many (n + 1) s).length = (many n s).length + s.length := by rw [many_succ, List.length_append]
  rcases h with ⟨_, rfl⟩ | ⟨k, hm, rfl⟩
  · omega
  · have := hm.2 _ (many_bd n s h0)
    omega
/-- Bytes packed part by part; a text packed. -/
def PcIs (b P : List UInt8) : Prop := U [] P b ∧ P.length ≤ b.length + 4
def PackIs (s t : List UInt8) : Prop := ∃ p, PerIs s p ∧
  ((p ≤ 4096 ∧ p + 4 ≤ s.length ∧ ∃ P, PcIs (s.take p) P ∧ t = P ++ againP (s.length - p) p) ∨ (¬ (p ≤ 4096 ∧ p + 4 ≤ s.length) ∧ PcIs s t))
theorem pack_U {s t : List UInt8} (h : PackIs s t) (hs : s.length ≤ 1048576) : U [] t s ∧ t.length ≤ s.length + 10 := by
  obtain ⟨p, hp, ⟨h1, h2, P, ⟨h3, h4⟩, rfl⟩ | ⟨_, h1, h2⟩⟩ := h
  · have h5 := per_pos hp (by omega)
    have e : (s.take p).length = p := by rw [List.length_take]; omega
    have hu := U_again (s.take p) (s.length - p) p (by omega) (by omega) h5 h1 (by omega)
    rw [per_rep hp (by omega)] at hu
    refine ⟨h3.app hu, ?_⟩
    rw [List.length_append]
    have := again_len (s.length - p) p (by omega) (by omega) h1
    omega
  · exact ⟨h1, by omega⟩
theorem pack_many {n : Nat} {s t : List UInt8} (h : PackIs (many (n + 1) s) t) (hs : s.length ≤ 1000) (hl : (many (n + 1) s).length ≤ 1048576) : t.length ≤ s.length + 20 := by
  by_cases h0 : 0 < s.length
  · obtain ⟨p, hp, ⟨h1, h2, P, ⟨h3, h4⟩, rfl⟩ | ⟨h3, h1, h2⟩⟩ := h
    · have h5 := per_many hp h0
      have := again_len ((many (n + 1) s).length - p) p (by omega) (by omega) h1
      rw [List.length_append]
      rw [List.length_take] at h4
      omega
    · have h5 := per_many hp h0
      omega
  · have e : s = [] := List.eq_nil_of_length_eq_zero (by omega)
    have := (pack_U h hl).2
    rw [many_len, e] at this
    simp only [List.length_nil] at this ⊢
    omega
/-- While a text is packed part by part: what is told of it. -/
def PcInv (B out : List UInt8) (told : Nat) : Prop := told ≤ B.length ∧ U [] out (B.take told) ∧ out.length ≤ told
theorem pc_start (B : List UInt8) : PcInv B [] 0 := ⟨Nat.zero_le _, .nil _, Nat.le_refl _⟩
/-- The bytes from one place to another. -/
def cutL (B : List UInt8) (i j : Nat) : List UInt8 := (B.take j).drop i
theorem cutL_len (B : List UInt8) (i j : Nat) (hj : j ≤ B.length) : (cutL B i j).length = j - i := by
  unfold cutL; rw [List.length_drop, List.length_take]; omega
theorem take_cut (B : List UInt8) (i j : Nat) (h : i ≤ j) : B.take i ++ cutL B i j = B.take j := by
  have : B.take i = (B.take j).take i := by rw [List.take_take, Nat.min_eq_left h]
  unfold cutL
  rw [this, List.take_append_drop]
theorem pc_step {B out : List UInt8} {told i j n : Nat} (h : PcInv B out told) (hB : B.length ≤ 1048576) (ht : told ≤ i) (hn : 8 ≤ n) (hin : i + n ≤ B.length) (hj : j < i) (hf : i - j ≤ 4096)
    (hs : ∀ k, k < n → B.getD (j + k) 0 = B.getD (i + k) 0) : PcInv B (out ++ plainP (cutL B told i) ++ againP n (i - j)) (i + n) := by
  obtain ⟨h1, h2, h3⟩ := h
  have hl := cutL_len B told i (by omega)
  have hu := U_plain (B.take told) (cutL B told i) (by omega)
  rw [take_cut B told i ht] at hu
  have ha := U_again (B.take i) n (i - j) (by omega) (by omega) (by omega) hf (by rw [List.length_take]; omega)
  rw [rep_take B (i - j) n i (by omega) (by omega) hin (fun k hk => by rw [show i - (i - j) + k = j + k by omega]; exact hs k hk)] at ha
  refine ⟨hin, (h2.app hu).app ha, ?_⟩
  simp only [List.length_append]
  have h4 := plain_len (cutL B told i) (by omega)
  have h5 := again_worth n (i - j) hn (by omega) hf
  omega
theorem pc_end {B out : List UInt8} {told : Nat} (h : PcInv B out told) (hB : B.length ≤ 1048576) : PcIs B (out ++ plainP (cutL B told B.length)) := by
  obtain ⟨h1, h2, h3⟩ := h
  have hl := cutL_len B told B.length (Nat.le_refl _)
  have hu := U_plain (B.take told) (cutL B told B.length) (by omega)
  rw [take_cut B told _ h1, List.take_length] at hu
  refine ⟨h2.app hu, ?_⟩
  rw [List.length_append]
  have h4 := plain_len (cutL B told B.length) (by omega)
  omega
end Go.Proofs.Ytnhchmbbhkgccaa.Lz
