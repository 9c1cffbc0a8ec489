/- The walk of batch.TakeRecord. -/
import Derived.Test.YtdeenkpkcibebaaBatRec
import Derived.Test.YtdeenkpkcibebaaTakeAll
import Derived.BigRegion
namespace Go.Proofs.Ytdeenkpkcibebaa
open Go.RowKit Vm Bm
set_option linter.unusedVariables false

def zr : Rec := ⟨0, 0, []⟩
/-- What TakeRecord answers. -/
def recA (s : List UInt8) : Rec × List UInt8 × Int := match takeR s with | none => (zr, [], 2) | some (r, t) => (r, t, 0)
theorem recA_none {s : List UInt8} (h : takeR s = none) : recA s = (zr, [], 2) := by unfold recA; rw [h]
theorem recA_some {s t : List UInt8} {r : Rec} (h : takeR s = some (r, t)) : recA s = (r, t, 0) := by unfold recA; rw [h]
theorem takeN_two' {s r1 : List UInt8} {vs : List Int} (h : takeN 2 s = some (vs, r1)) : ∃ k t s1, vs = [k, t] ∧ takeL s = some (k, s1) ∧ takeL s1 = some (t, r1) := by
  rw [takeN] at h
  split at h
  · cases h
  · next k s1 h1 =>
    split at h
    · cases h
    · next vs' r' h2 =>
      rw [takeN] at h2
      split at h2
      · cases h2
      · next t s2 h3 => cases h2; cases h; exact ⟨k, t, s1, rfl, h1, h3⟩
theorem takeR_n {s : List UInt8} (h : takeN 2 s = none) : takeR s = none := by
  unfold takeR
  cases h1 : takeL s with
  | none => rfl
  | some p =>
    obtain ⟨k, s1⟩ := p
    rw [takeN_step h1] at h
    simp only
    cases h2 : takeL s1 with
    | none => rfl
    | some q => obtain ⟨t, s2⟩ := q; rw [takeN_step h2] at h; simp [takeN] at h
theorem takeR_bad {s r1 : List UInt8} {k t : Int} (h : takeN 2 s = some ([k, t], r1)) (hb : k < 0 ∨ 1048576 < k ∨ t < 0 ∨ 1099511627776 < t) : takeR s = none := by
  obtain ⟨k', t', s1, e, h1, h2⟩ := takeN_two' h
  cases e
  unfold takeR
  rw [h1]
  simp only
  rw [h2]
  simp only
  split
  · rfl
  · split
    · rfl
    · rw [if_neg]; unfold MayR; simp only; omega
theorem takeR_text {s r1 : List UInt8} {k t : Int} (h : takeN 2 s = some ([k, t], r1)) (hb : ¬ (k < 0 ∨ 1048576 < k ∨ t < 0 ∨ 1099511627776 < t)) :
    (textA (str r1) 512 = ([], [], 2) ∧ takeR s = none) ∨ ∃ x rest, textA (str r1) 512 = (x, rest, 0) ∧ takeR s = some (⟨k, t, x⟩, rest) := by
  obtain ⟨k', t', s1, e, h1, h2⟩ := takeN_two' h
  cases e
  unfold takeR textA
  rw [h1, str_toList]
  simp only
  rw [h2]
  simp only
  cases h3 : takeL r1 with
  | none => exact .inl ⟨rfl, rfl⟩
  | some q =>
    obtain ⟨n, s3⟩ := q
    simp only
    by_cases hc : n < 0 ∨ 512 < n ∨ (s3.length : Int) < n
    · rw [if_pos hc, if_pos hc]; exact .inl ⟨rfl, rfl⟩
    · rw [if_neg hc, if_neg hc, if_pos]
      · exact .inr ⟨_, _, rfl, rfl⟩
      · unfold MayR; simp only [List.length_take]; omega

/-- Three cells of a block that may be written. -/
structure Box3 (w : World) (g : Nat) (x y z : Value) : Prop where
  c0 : w.cell? ⟨g, 0, none⟩ = some x
  c1 : w.cell? ⟨g, 1, none⟩ = some y
  c2 : w.cell? ⟨g, 2, none⟩ = some z
  f0 : w.frozen? ⟨g, 0, none⟩ = false
  f1 : w.frozen? ⟨g, 1, none⟩ = false
  f2 : w.frozen? ⟨g, 2, none⟩ = false
  lt : g < w.heap.size
theorem Box3.start (w : World) (x y z : Value) (T : TypeId) : Box3 (w.alloc (.cells #[x, y, z] T)) w.heap.size x y z := by
  refine ⟨?_, ?_, ?_, ?_, ?_, ?_, by simp⟩
  all_goals first
    | (rw [World.cell?_alloc_at _ _ _ _ rfl]; rfl)
    | (rw [World.frozen?_alloc_at _ _ _ _ rfl])
theorem Box3.keep {w w' : World} {g : Nat} {x y z : Value} (h : Box3 w g x y z) (hb : Below w.heap.size w w') : Box3 w' g x y z := by
  obtain ⟨c0, c1, c2, f0, f1, f2, lt⟩ := h
  exact ⟨(hb.cell (by exact lt)).trans c0, (hb.cell (by exact lt)).trans c1, (hb.cell (by exact lt)).trans c2, (hb.frozen (by exact lt)).trans f0, (hb.frozen (by exact lt)).trans f1, (hb.frozen (by exact lt)).trans f2, Nat.lt_of_lt_of_le lt hb.size⟩

set_option maxRecDepth 100000 in
set_option maxHeartbeats 4000000 in
theorem take_rec_walk (s : ByteArray) (w : World) (hs : s.size ≤ 140737488355328) :
    Calls Try.prog 27 #[.string s] w fun e w' => e = .returned (.tuple #[rv (recA s.data.toList).1, .string (str (recA s.data.toList).2.1), .int .i64 (recA s.data.toList).2.2]) ∧ Below w.heap.size w w' := by
  have B0 := Lib.hid (Box3.start w (.int .i64 0) (.int .i64 0) (.string ⟨#[]⟩) 43)
  have hbel : Below w.heap.size w (w.alloc (.cells #[.int .i64 0, .int .i64 0, .string ⟨#[]⟩] 43)) := (Below.refl _ _).alloc (Nat.le_refl _) _
  have hs0 : str [] = ⟨#[]⟩ := rfl
  cases hT : takeN 2 s.data.toList with
  | none =>
    rw [recA_none (takeR_n hT)]
    have HT := Lib.hid hT
    clear hT
    go_enter Try.func27, Try.ntmps27
    go_wp2_with fail
    refine (take_none_at s 2 2 rfl _ hs (by omega) HT.out).mono ?_
    rintro e w1 ⟨rfl, g1⟩
    have hb1 := hbel.trans (g1.mono hbel.size)
    obtain ⟨c0, c1, c2, f0, f1, f2, lt⟩ := B0.out.keep g1
    clear g1 hbel
    go_wp2_with fail
    refine bodyPost_ret (v := .tuple #[rv zr, .string ⟨#[]⟩, .int .i64 2]) (by simp [results, Try.results27, go_sem, c0, c1, c2, rv, zr, hs0]) rfl ⟨rfl, ?_⟩
    exact ((hb1.setCell (Nat.le_refl _) _).setCell (Nat.le_refl _) _).setCell (Nat.le_refl _) _
  | some p =>
    obtain ⟨vs, r1⟩ := p
    obtain ⟨k, t, s1, rfl, h1, h2⟩ := takeN_two' hT
    have hr1 : (str r1).size ≤ maxLen := by
      obtain ⟨_, e1⟩ := takeL_some h1
      obtain ⟨_, e2⟩ := takeL_some h2
      have := congrArg List.length e1
      have := congrArg List.length e2
      rw [List.length_append] at *
      rw [str_size]
      rw [toList_length] at *
      unfold maxLen; omega
    by_cases hb : k < 0 ∨ 1048576 < k ∨ t < 0 ∨ 1099511627776 < t
    · rw [recA_none (takeR_bad hT hb)]
      have hb' : k < 0 ∨ (¬ k < 0 ∧ 1048576 < k) ∨ (¬ k < 0 ∧ ¬ 1048576 < k ∧ t < 0) ∨ (¬ k < 0 ∧ ¬ 1048576 < k ∧ ¬ t < 0 ∧ 1099511627776 < t) := by omega
      have HT := Lib.hid hT
      clear hT h1 h2 hr1 hb
      go_enter Try.func27, Try.ntmps27
      go_wp2_with fail
      refine (take_all_at s 2 2 rfl [k, t] r1 _ hs (by omega) HT.out).mono ?_
      rintro e w1 ⟨a, c, rfl, o1, g1⟩
      have hb1 := hbel.trans (g1.mono hbel.size)
      obtain ⟨c0, c1, c2, f0, f1, f2, lt⟩ := B0.out.keep g1
      have sl := own_sl o1
      obtain ⟨b1, x1, rfl, l1, k1⟩ := sl.at (j := 0) (by simp [i64s])
      obtain ⟨b2, x2, e2, l2, k2⟩ := sl.at (j := 1) (by simp [i64s])
      obtain ⟨rfl, rfl⟩ : b1 = b2 ∧ x1 = x2 := by simpa using e2
      simp [i64s] at k1 k2
      clear g1 hbel o1 sl e2
      rcases hb' with q | ⟨q0, q⟩ | ⟨q0, q1, q⟩ | ⟨q0, q1, q2, q⟩
      all_goals
        go_wp2_with fail
        refine bodyPost_ret (v := .tuple #[rv zr, .string ⟨#[]⟩, .int .i64 2]) (by simp [results, Try.results27, go_sem, c0, c1, c2, rv, zr, hs0]) rfl ⟨rfl, ?_⟩
        exact ((hb1.setCell (Nat.le_refl _) _).setCell (Nat.le_refl _) _).setCell (Nat.le_refl _) _
    · have hcase := takeR_text hT hb
      obtain ⟨q0, q1, q2, q3⟩ : ¬ k < 0 ∧ ¬ 1048576 < k ∧ ¬ t < 0 ∧ ¬ 1099511627776 < t := by omega
      have HT := Lib.hid hT
      clear hT h1 h2 hb
      rcases hcase with ⟨hx, hn⟩ | ⟨x, rest, hx, hn⟩
      · rw [recA_none hn]
        have HX := Lib.hid hx
        clear hx hn
        go_enter Try.func27, Try.ntmps27
        go_wp2_with fail
        refine (take_all_at s 2 2 rfl [k, t] r1 _ hs (by omega) HT.out).mono ?_
        rintro e w1 ⟨a, c, rfl, o1, g1⟩
        have hb1 := hbel.trans (g1.mono hbel.size)
        have B1 := B0.out.keep g1
        have sl := own_sl o1
        obtain ⟨b1, x1, rfl, l1, k1⟩ := sl.at (j := 0) (by simp [i64s])
        obtain ⟨b2, x2, e2, l2, k2⟩ := sl.at (j := 1) (by simp [i64s])
        obtain ⟨rfl, rfl⟩ : b1 = b2 ∧ x1 = x2 := by simpa using e2
        simp [i64s] at k1 k2
        clear g1 hbel o1 sl e2
        go_wp2_with fail
        refine (take_text_walk (str r1) 512 _ hr1).mono ?_
        rw [HX.out]
        rintro e w2 ⟨rfl, d2⟩
        have hb2 := gdrew hb1 d2
        obtain ⟨c0, c1, c2, f0, f1, f2, lt⟩ := B1.keep (d2.below _)
        clear d2 hb1
        go_wp2_with fail
        refine bodyPost_ret (v := .tuple #[rv zr, .string ⟨#[]⟩, .int .i64 2]) (by simp [results, Try.results27, go_sem, c0, c1, c2, rv, zr, hs0]) rfl ⟨rfl, ?_⟩
        exact ((hb2.setCell (Nat.le_refl _) _).setCell (Nat.le_refl _) _).setCell (Nat.le_refl _) _
      · rw [recA_some hn]
        have HX := Lib.hid hx
        clear hx hn
        go_enter Try.func27, Try.ntmps27
        go_wp2_with fail
        refine (take_all_at s 2 2 rfl [k, t] r1 _ hs (by omega) HT.out).mono ?_
        rintro e w1 ⟨a, c, rfl, o1, g1⟩
        have hb1 := hbel.trans (g1.mono hbel.size)
        have B1 := B0.out.keep g1
        have sl := own_sl o1
        obtain ⟨b1, x1, rfl, l1, k1⟩ := sl.at (j := 0) (by simp [i64s])
        obtain ⟨b2, x2, e2, l2, k2⟩ := sl.at (j := 1) (by simp [i64s])
        obtain ⟨rfl, rfl⟩ : b1 = b2 ∧ x1 = x2 := by simpa using e2
        simp [i64s] at k1 k2
        clear g1 hbel o1 sl e2
        go_wp2_with fail
        refine (take_text_walk (str r1) 512 _ hr1).mono ?_
        rw [HX.out]
        rintro e w2 ⟨rfl, d2⟩
        have hb2 := gdrew hb1 d2
        obtain ⟨c0, c1, c2, f0, f1, f2, lt⟩ := B1.keep (d2.below _)
        have m1 := ((d2.below _).cell (p := ⟨b1, x1, none⟩) l1).trans k1
        have m2 := ((d2.below _).cell (p := ⟨b1, x1 + 1, none⟩) l1).trans k2
        clear d2 hb1 k1 k2
        go_wp2_with fail
        go_region
        all_goals
          go_wp2_with fail
          refine bodyPost_ret (v := .tuple #[rv ⟨k, t, x⟩, .string (str rest), .int .i64 0]) (by simp [results, Try.results27, go_sem, c0, c1, c2, rv]) rfl ⟨rfl, ?_⟩
          exact (((hb2.setCell (Nat.le_refl _) _).setCell (Nat.le_refl _) _).setCell (Nat.le_refl _) _).drew
end Go.Proofs.Ytdeenkpkcibebaa
