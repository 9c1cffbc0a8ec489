/- Plain mathematics of chapter 3: frames, on lists of bytes. No program is imported. -/
import Derived.Test.YteckddlcecleaaaCm
namespace Go.Proofs.Yteckddlcecleaaa.Fm
open Vm Cm
set_option linter.unusedVariables false

/-- May an entry be? -/
def MayE (b n : Int) (t : List UInt8) : Prop := 0 ≤ b ∧ b ≤ 1099511627776 ∧ 1 ≤ n ∧ n ≤ 64 ∧ t.length ≤ 65536
instance (b n : Int) (t : List UInt8) : Decidable (MayE b n t) := by unfold MayE; infer_instance
def bodyL (b n : Int) (t : List UInt8) : List UInt8 := putL b ++ (putL n ++ t)
def headL (l : List UInt8) : List UInt8 := putL (l.length : Int) ++ l
def frameL (b n : Int) (t : List UInt8) : List UInt8 := seal' (headL (bodyL b n t))
/-- s begins with the frame of an entry that may be; r is behind it. -/
def Fr (s : List UInt8) (b n : Int) (t r : List UInt8) : Prop := MayE b n t ∧ s = frameL b n t ++ r
def NoFr (s : List UInt8) : Prop := ∀ b n t r, ¬ Fr s b n t r

theorem MayE.i64 {b n : Int} {t : List UInt8} (h : MayE b n t) : I64 b ∧ I64 n := by unfold MayE at h; unfold I64; omega
theorem putL_len_le (k : Nat) {n : Int} (h : zig n < 128 ^ (k + 1)) : (putL n).length ≤ k + 1 := enc_len_le k _ h
theorem body_len {b n : Int} {t : List UInt8} (h : MayE b n t) : (bodyL b n t).length ≤ 65544 := by
  obtain ⟨h1, h2, h3, h4, h5⟩ := h
  have e1 := putL_len_le 5 (n := b) (by unfold zig; split <;> omega)
  have e2 := putL_len_le 1 (n := n) (by unfold zig; split <;> omega)
  unfold bodyL
  rw [List.length_append, List.length_append]
  omega
theorem headL_len (l : List UInt8) : (headL l).length = (putL (l.length : Int)).length + l.length := by unfold headL; rw [List.length_append]
theorem seal_len (l : List UInt8) : (seal' l).length = l.length + 4 := by unfold seal'; rw [List.length_append, four_length]
theorem frameL_len (b n : Int) (t : List UInt8) : (frameL b n t).length = (headL (bodyL b n t)).length + 4 := seal_len _
theorem frameL_pos (b n : Int) (t : List UInt8) : 4 < (frameL b n t).length := by
  rw [frameL_len, headL_len]; have := putL_pos ((bodyL b n t).length : Int); omega
theorem i64_len {l : List UInt8} (h : l.length ≤ 9223372036854775807) : I64 (l.length : Int) := ⟨by omega, by omega⟩
/-- What is taken: the number of bytes, the bytes, and what is behind them. -/
theorem takeL_frame {b n : Int} {t : List UInt8} (h : MayE b n t) (r : List UInt8) :
    takeL (frameL b n t ++ r) = some (((bodyL b n t).length : Int), bodyL b n t ++ (four (sum (headL (bodyL b n t))) ++ r)) := by
  have hl := body_len h
  have e : frameL b n t ++ r = putL ((bodyL b n t).length : Int) ++ (bodyL b n t ++ (four (sum (headL (bodyL b n t))) ++ r)) := by
    unfold frameL seal' headL
    simp only [List.append_assoc]
  rw [e, takeL_put (i64_len (by omega))]
theorem takeN_body {b n : Int} {t : List UInt8} (hb : I64 b) (hn : I64 n) : takeN 2 (bodyL b n t) = some ([b, n], t) := by
  have := takeN_put [b, n] (by intro m hm; rcases List.mem_cons.1 hm with rfl | hm; exact hb; rw [List.mem_singleton.1 hm]; exact hn) t
  simpa [putN, bodyL, List.append_assoc] using this
theorem takeN_two {s r : List UInt8} {vs : List Int} (h : takeN 2 s = some (vs, r)) : ∃ b n, vs = [b, n] ∧ I64 b ∧ I64 n ∧ s = bodyL b n r := by
  rw [takeN] at h
  split at h
  · cases h
  · next b s1 h1 =>
    rw [takeN] at h
    cases h2 : takeL s1 with
    | none => rw [h2] at h; cases h
    | some p =>
      obtain ⟨n, s2⟩ := p
      rw [h2] at h
      simp only [takeN] at h
      cases h
      obtain ⟨i1, rfl⟩ := takeL_some h1
      obtain ⟨i2, rfl⟩ := takeL_some h2
      exact ⟨b, n, rfl, i1, i2, rfl⟩
theorem Fr.uniq {s : List UInt8} {b n b' n' : Int} {t r t' r' : List UInt8} (h : Fr s b n t r) (k : Fr s b' n' t' r') : b = b' ∧ n = n' ∧ t = t' ∧ r = r' := by
  obtain ⟨m1, e1⟩ := h
  obtain ⟨m2, e2⟩ := k
  have h1 := takeL_frame m1 r
  have h2 := takeL_frame m2 r'
  rw [← e1] at h1
  rw [← e2, h1] at h2
  injection h2 with h2
  injection h2 with h3 h4
  have hl : (bodyL b n t).length = (bodyL b' n' t').length := by omega
  have hb := List.append_inj h4 hl
  have h5 := takeN_body (t := t) m1.i64.1 m1.i64.2
  have h6 := takeN_body (t := t') m2.i64.1 m2.i64.2
  rw [hb.1, h6] at h5
  simp only [Option.some.injEq, Prod.mk.injEq, List.cons.injEq, and_true] at h5
  obtain ⟨⟨rfl, rfl⟩, rfl⟩ := h5
  exact ⟨rfl, rfl, rfl, List.append_cancel_left hb.2⟩
/-- The parts of a text that begins with a number of bytes, and they, and four more. -/
theorem frame_of {s body rest : List UInt8} (h1 : I64 (body.length : Int)) (hs : s = putL (body.length : Int) ++ (body ++ rest)) (h4 : 4 ≤ rest.length)
    {b n : Int} {t p : List UInt8} (hp : s.take (s.length - (rest.length - 4)) = seal' p) (hb : takeN 2 body = some ([b, n], t)) (hm : MayE b n t) : Fr s b n t (rest.drop 4) := by
  refine ⟨hm, ?_⟩
  obtain ⟨b', n', e, _, _, hbody⟩ := takeN_two hb
  simp only [List.cons.injEq, and_true] at e
  obtain ⟨rfl, rfl⟩ := e
  have e1 : s.take (s.length - (rest.length - 4)) = headL body ++ rest.take 4 := by
    rw [hs]
    have : putL (body.length : Int) ++ (body ++ rest) = headL body ++ rest := by unfold headL; rw [List.append_assoc]
    rw [this, List.length_append, show (headL body).length + rest.length - (rest.length - 4) = (headL body).length + 4 from by omega, List.take_length_add_append]
  rw [e1] at hp
  unfold seal' at hp
  have hl : (headL body).length = p.length := by
    have := congrArg List.length hp
    simp only [List.length_append, List.length_take, four_length] at this
    omega
  obtain ⟨q1, q2⟩ := List.append_inj hp hl
  unfold frameL seal'
  rw [← hbody, q1, ← q2, ← q1, hs]
  unfold headL
  rw [List.append_assoc, List.append_assoc, List.take_append_drop]
end Go.Proofs.Yteckddlcecleaaa.Fm
