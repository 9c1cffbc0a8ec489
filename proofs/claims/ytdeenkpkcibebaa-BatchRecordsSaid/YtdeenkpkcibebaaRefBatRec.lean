/- The walks of headgateref06.In, MayRecord, Record, TakeRecord. -/
import Derived.Test.YtdeenkpkcibebaaBatTake
import Derived.Test.YtdeenkpkcibebaaRefPut
import Derived.Test.YtdeenkpkcibebaaRefTake
namespace Go.Proofs.Ytdeenkpkcibebaa
open Go.RowKit Vm Bm
set_option linter.unusedVariables false

set_option maxRecDepth 100000 in
set_option maxHeartbeats 1000000 in
theorem in_walk (n : Int) (b : Bool) (w : World) (hb : b = true ↔ 0 ≤ n ∧ n ≤ 1099511627776) :
    Calls Try.prog 47 #[.int .i64 n] w fun e w' => e = .returned (.bool b) ∧ w' = w := by
  by_cases h1 : 0 ≤ n
  · by_cases h2 : n ≤ 1099511627776
    · obtain rfl : b = true := by rw [hb]; exact ⟨h1, h2⟩
      clear hb
      go_enter Try.func47, Try.ntmps47
      go_wp2_with fail
      go_ret
      exact ⟨rfl, rfl⟩
    · obtain rfl : b = false := by rw [Bool.eq_false_iff, Ne, hb]; exact fun h => h2 h.2
      clear hb
      go_enter Try.func47, Try.ntmps47
      go_wp2_with fail
      go_ret
      exact ⟨rfl, rfl⟩
  · obtain rfl : b = false := by rw [Bool.eq_false_iff, Ne, hb]; exact fun h => h1 h.1
    clear hb
    go_enter Try.func47, Try.ntmps47
    go_wp2_with fail
    go_ret
    exact ⟨rfl, rfl⟩

set_option maxRecDepth 100000 in
set_option maxHeartbeats 2000000 in
theorem mayrec_walk (r : Rec) (b : Bool) (w : World) (hb : b = true ↔ MayR r) :
    Calls Try.prog 31 #[rv r] w fun e w' => e = .returned (.bool b) ∧ Below w.heap.size w w' := by
  obtain ⟨k, t, x⟩ := r
  unfold MayR at hb
  simp only at hb
  have hz : ((str x).size : Int) = x.length := by rw [str_size]
  have hal : Below w.heap.size w (w.alloc (.cells #[.int .i64 k, .int .i64 t, .string (str x)] 43)) := (Below.refl _ _).alloc (Nat.le_refl _) _
  have HAL := Lib.hid hal
  clear hal
  simp only [rv]
  by_cases h1 : 0 ≤ k
  · by_cases h2 : k ≤ 1048576
    · by_cases h3 : 0 ≤ t ∧ t ≤ 1099511627776
      · have H3 := Lib.hid h3
        by_cases h4 : ((str x).size : Int) ≤ 512
        · obtain rfl : b = true := by rw [hb]; omega
          clear hb hz h3
          go_enter Try.func31, Try.ntmps31
          go_wp2_with fail
          refine (in_walk t true _ ⟨fun _ => H3.out, fun _ => rfl⟩).mono ?_
          rintro e w1 ⟨rfl, rfl⟩
          go_wp2_with fail
          go_ret
          exact ⟨rfl, HAL.out⟩
        · obtain rfl : b = false := by rw [Bool.eq_false_iff, Ne, hb]; omega
          clear hb hz h3
          go_enter Try.func31, Try.ntmps31
          go_wp2_with fail
          refine (in_walk t true _ ⟨fun _ => H3.out, fun _ => rfl⟩).mono ?_
          rintro e w1 ⟨rfl, rfl⟩
          go_wp2_with fail
          go_ret
          refine ⟨?_, HAL.out⟩
          first | rfl | (rw [show decide (((str x).size : Int) ≤ 512) = false from decide_eq_false (by omega)]; rfl)
      · have H3 := Lib.hid h3
        obtain rfl : b = false := by rw [Bool.eq_false_iff, Ne, hb]; omega
        clear hb hz h3
        go_enter Try.func31, Try.ntmps31
        go_wp2_with fail
        refine (in_walk t false _ ⟨fun h => (by cases h), fun h => absurd h H3.out⟩).mono ?_
        rintro e w1 ⟨rfl, rfl⟩
        go_wp2_with fail
        go_ret
        exact ⟨rfl, HAL.out⟩
    · obtain rfl : b = false := by rw [Bool.eq_false_iff, Ne, hb]; omega
      clear hb hz
      go_enter Try.func31, Try.ntmps31
      go_wp2_with fail
      go_ret
      exact ⟨rfl, HAL.out⟩
  · obtain rfl : b = false := by rw [Bool.eq_false_iff, Ne, hb]; omega
    clear hb hz
    go_enter Try.func31, Try.ntmps31
    go_wp2_with fail
    go_ret
    exact ⟨rfl, HAL.out⟩

theorem rec_text2 (r : Rec) : str (putL r.k) ++ str (putL r.t) ++ (str (putL ((str r.x).size : Int)) ++ str r.x) = str (recL r) := by
  apply ByteArray.ext
  apply Array.ext'
  rw [ByteArray.data_append, ByteArray.data_append, ByteArray.data_append, Array.toList_append, Array.toList_append, Array.toList_append, str_toList, str_toList, str_toList, str_toList, str_toList, str_size]
  simp [recL]

set_option maxRecDepth 100000 in
set_option maxHeartbeats 2000000 in
theorem ref_rec_walk (r : Rec) (w : World) (hk : I64 r.k) (ht : I64 r.t) (hx : r.x.length ≤ 140737488351232) :
    Calls Try.prog 30 #[rv r] w fun e w' => e = .returned (.string (str (recL r))) ∧ Below w.heap.size w w' := by
  have hz : (str r.x).size ≤ 140737488351232 := by rw [str_size]; exact hx
  have P1 := Lib.hid (fun W => ref_put_walk r.k W hk)
  have P2 := Lib.hid (fun W => ref_put_walk r.t W ht)
  have P3 := Lib.hid (fun W => ref_text_walk (str r.x) W hz)
  have z1 : (str (putL r.k)).size ≤ 10 := by rw [str_size]; exact putL_len hk
  have z2 : (str (putL r.t)).size ≤ 10 := by rw [str_size]; exact putL_len ht
  have z3 : (str (putL ((str r.x).size : Int)) ++ str r.x).size ≤ 140737488351242 := by
    have := putL_len (n := ((str r.x).size : Int)) ⟨by omega, by omega⟩
    rw [ByteArray.size_append, str_size]; omega
  have hE := rec_text2 r
  obtain ⟨k, t, x⟩ := r
  simp only at hk ht hx hz P1 P2 P3 z1 z2 z3 hE
  generalize str (putL k) = X at *
  generalize str (putL t) = Y at *
  generalize hT : str (putL ((str x).size : Int)) ++ str x = Z at *
  clear hT
  have HE := Lib.hid hE
  have q1 : ¬ (9223372036854775807 < X.size + Y.size) := by omega
  have q2 : ¬ (9223372036854775807 < X.size + Y.size + Z.size) := by omega
  have hbel : Below w.heap.size w (w.alloc (.cells #[.int .i64 k, .int .i64 t, .string (str x)] 43)) := (Below.refl _ _).alloc (Nat.le_refl _) _
  obtain ⟨W, hW⟩ : ∃ W, W = w.alloc (.cells #[.int .i64 k, .int .i64 t, .string (str x)] 43) := ⟨_, rfl⟩
  have hS0 : Tr W W.drew w.heap.size ⟨k, t, x⟩ := by
    refine ⟨?_, ?_, ?_, ?_, (Below.refl _ _).drew⟩
    · show W.cell? ⟨w.heap.size, 0, none⟩ = _; rw [hW, World.cell?_alloc_at _ _ _ _ rfl]; rfl
    · show W.cell? ⟨w.heap.size, 1, none⟩ = _; rw [hW, World.cell?_alloc_at _ _ _ _ rfl]; rfl
    · show W.cell? ⟨w.heap.size, 2, none⟩ = _; rw [hW, World.cell?_alloc_at _ _ _ _ rfl]; rfl
    · rw [hW]; simp
  rw [← hW] at hbel
  unfold Tr at hS0
  simp only at hS0
  clear hz z1 z2 z3 hE hk ht hx
  unfold rv
  go_enter Try.func30, Try.ntmps30
  go_wp2_with fail
  rw [← hW]
  clear hW
  go_region_held3 (fun w' => w'.cell? ⟨w.heap.size, 0, none⟩ = some (.int .i64 k) ∧ w'.cell? ⟨w.heap.size, 1, none⟩ = some (.int .i64 t) ∧ w'.cell? ⟨w.heap.size, 2, none⟩ = some (.string (str x)) ∧ w.heap.size < w'.heap.size ∧ Below W.heap.size W w')
    (with_reducible assumption)
    (first
      | (go_at_call_of 51 k; refine (P1.out _).mono ?_; rintro e w3 ⟨rfl, h3⟩; have y : Tr W w3 w.heap.size ⟨k, t, x⟩ := tr_keep (by with_reducible assumption) h3; unfold Tr at y; simp only at y)
      | (go_at_call_of 51 t; refine (P2.out _).mono ?_; rintro e w4 ⟨rfl, h4⟩; have y : Tr W w4 w.heap.size ⟨k, t, x⟩ := tr_keep (by with_reducible assumption) h4; unfold Tr at y; simp only at y)
      | (go_at_call 59; refine (P3.out _).mono ?_; rintro e w5 ⟨rfl, h5⟩; have y : Tr W w5 w.heap.size ⟨k, t, x⟩ := tr_keep (by with_reducible assumption) h5; unfold Tr at y; simp only at y))
  all_goals
    go_wp2_with fail
    go_ret
    exact ⟨by rw [HE.out]; rfl, hbel.trans (y.2.2.2.2.mono hbel.size)⟩

theorem suffix_size {s : ByteArray} {a b : List UInt8} (e : s.data.toList = a ++ b) (hs : s.size ≤ 140737488355328) : (str b).size ≤ 140737488355328 := by
  have := congrArg List.length e
  rw [List.length_append, toList_length] at this
  rw [str_size]; omega
/-- The steps of headgateref06.TakeRecord. -/
theorem rrec_cases (s : ByteArray) (hs : s.size ≤ 140737488355328) : ∃ k s1 e1 t s2 e2 x s3 e3, takeA s = (k, s1, e1) ∧ takeA (str s1) = (t, s2, e2) ∧ textA (str s2) 512 = (x, s3, e3) ∧ (str s1).size ≤ maxLen ∧ (str s2).size ≤ maxLen ∧
    ((¬ e1 = 0 ∧ recA s.data.toList = (zr, [], 2)) ∨ (e1 = 0 ∧ ¬ e2 = 0 ∧ recA s.data.toList = (zr, [], 2)) ∨ (e1 = 0 ∧ e2 = 0 ∧ ¬ e3 = 0 ∧ recA s.data.toList = (zr, [], 2)) ∨ (e1 = 0 ∧ e2 = 0 ∧ e3 = 0 ∧ ¬ MayR ⟨k, t, x⟩ ∧ recA s.data.toList = (zr, [], 2)) ∨ (e1 = 0 ∧ e2 = 0 ∧ e3 = 0 ∧ MayR ⟨k, t, x⟩ ∧ recA s.data.toList = (⟨k, t, x⟩, s3, 0))) := by
  have a0 : takeA (str []) = (0, [], 2) := by decide +kernel
  have t0 : textA (str []) 512 = ([], [], 2) := by decide +kernel
  have m0 : (str []).size ≤ maxLen := by unfold maxLen; decide
  cases h1 : takeL s.data.toList with
  | none =>
    have hr : takeR s.data.toList = none := by unfold takeR; rw [h1]
    exact ⟨0, [], 2, 0, [], 2, [], [], 2, by unfold takeA; rw [h1], a0, t0, m0, m0, .inl ⟨by omega, recA_none hr⟩⟩
  | some p =>
    obtain ⟨k, s1⟩ := p
    have e1 : takeA s = (k, s1, 0) := by unfold takeA; rw [h1]
    have z1 : (str s1).size ≤ 140737488355328 := suffix_size (takeL_some h1).2 hs
    have l1 : (str s1).size ≤ maxLen := by unfold maxLen; omega
    cases h2 : takeL s1 with
    | none =>
      have hr : takeR s.data.toList = none := by unfold takeR; rw [h1]; simp only; rw [h2]
      exact ⟨k, s1, 0, 0, [], 2, [], [], 2, e1, by unfold takeA; rw [str_toList, h2], t0, l1, m0, .inr (.inl ⟨rfl, by omega, recA_none hr⟩)⟩
    | some p2 =>
      obtain ⟨t, s2⟩ := p2
      have e2 : takeA (str s1) = (t, s2, 0) := by unfold takeA; rw [str_toList, h2]
      have z2 : (str s2).size ≤ 140737488355328 := suffix_size (s := str s1) (by rw [str_toList]; exact (takeL_some h2).2) z1
      have l2 : (str s2).size ≤ maxLen := by unfold maxLen; omega
      cases h3 : takeL s2 with
      | none =>
        have hr : takeR s.data.toList = none := by unfold takeR; rw [h1]; simp only; rw [h2]; simp only; rw [h3]
        exact ⟨k, s1, 0, t, s2, 0, [], [], 2, e1, e2, by unfold textA; rw [str_toList, h3], l1, l2, .inr (.inr (.inl ⟨rfl, rfl, by omega, recA_none hr⟩))⟩
      | some p3 =>
        obtain ⟨n, s3⟩ := p3
        by_cases hc : n < 0 ∨ 512 < n ∨ (s3.length : Int) < n
        · have hr : takeR s.data.toList = none := by unfold takeR; rw [h1]; simp only; rw [h2]; simp only; rw [h3]; simp only; rw [if_pos hc]
          exact ⟨k, s1, 0, t, s2, 0, [], [], 2, e1, e2, by unfold textA; rw [str_toList, h3]; simp only; rw [if_pos hc], l1, l2, .inr (.inr (.inl ⟨rfl, rfl, by omega, recA_none hr⟩))⟩
        · have e3 : textA (str s2) 512 = (s3.take n.toNat, s3.drop n.toNat, 0) := by unfold textA; rw [str_toList, h3]; simp only; rw [if_neg hc]
          by_cases hm : MayR ⟨k, t, s3.take n.toNat⟩
          · have hr : takeR s.data.toList = some (⟨k, t, s3.take n.toNat⟩, s3.drop n.toNat) := by unfold takeR; rw [h1]; simp only; rw [h2]; simp only; rw [h3]; simp only; rw [if_neg hc, if_pos hm]
            exact ⟨k, s1, 0, t, s2, 0, _, _, 0, e1, e2, e3, l1, l2, .inr (.inr (.inr (.inr ⟨rfl, rfl, rfl, hm, recA_some hr⟩)))⟩
          · have hr : takeR s.data.toList = none := by unfold takeR; rw [h1]; simp only; rw [h2]; simp only; rw [h3]; simp only; rw [if_neg hc, if_neg hm]
            exact ⟨k, s1, 0, t, s2, 0, _, _, 0, e1, e2, e3, l1, l2, .inr (.inr (.inr (.inl ⟨rfl, rfl, rfl, hm, recA_none hr⟩)))⟩

set_option maxRecDepth 100000 in
set_option maxHeartbeats 4000000 in
theorem ref_take_rec_walk (s : ByteArray) (w : World) (hs : s.size ≤ 140737488355328) :
    Calls Try.prog 28 #[.string s] w fun e w' => e = .returned (.tuple #[rv (recA s.data.toList).1, .string (str (recA s.data.toList).2.1), .int .i64 (recA s.data.toList).2.2]) ∧ Below w.heap.size w w' := by
  have B0 := Lib.hid (Box3.start w (.int .i64 0) (.int .i64 0) (.string ⟨#[]⟩) 43)
  have hbel : Below w.heap.size w (w.alloc (.cells #[.int .i64 0, .int .i64 0, .string ⟨#[]⟩] 43)) := (Below.refl _ _).alloc (Nat.le_refl _) _
  have hs0 : str [] = ⟨#[]⟩ := rfl
  have hsm : s.size ≤ maxLen := by unfold maxLen; omega
  obtain ⟨k, s1, e1, t, s2, e2, x, s3, e3, a1, a2, a3, l1, l2, hcase⟩ := rrec_cases s hs
  generalize recA s.data.toList = D at *
  have A1 := Lib.hid a1
  have A2 := Lib.hid a2
  have A3 := Lib.hid a3
  have L1 := Lib.hid l1
  have L2 := Lib.hid l2
  clear a1 a2 a3 l1 l2
  go_enter Try.func28, Try.ntmps28
  go_wp2_with fail
  refine (ref_take_walk s _ hsm).mono ?_
  rw [A1.out]
  rintro e w1 ⟨rfl, g1⟩
  have hb1 := hbel.trans (g1.mono hbel.size)
  have B1 := B0.out.keep g1
  clear g1 hbel B0
  go_wp2_with fail
  refine (ref_take_walk (str s1) _ L1.out).mono ?_
  rw [A2.out]
  rintro e w2 ⟨rfl, g2⟩
  have hb2 := hb1.trans (g2.mono hb1.size)
  have B2 := B1.keep g2
  clear g2 hb1 B1
  go_wp2_with fail
  refine (ref_take_text_walk (str s2) 512 _ L2.out).mono ?_
  rw [A3.out]
  rintro e w3 ⟨rfl, g3⟩
  have hb3 := hb2.trans (g3.mono hb2.size)
  have B3 := B2.keep g3
  clear g3 hb2 B2
  have N1 := Box3.start w3 (.int .i64 k) (.int .i64 t) (.string (str x)) 43
  have hal : Below w3.heap.size w3 (w3.alloc (.cells #[.int .i64 k, .int .i64 t, .string (str x)] 43)) := (Below.refl _ _).alloc (Nat.le_refl _) _
  have B4 := B3.keep hal
  have hb4 := hb3.trans (hal.mono hb3.size)
  clear B3 hb3 hal
  rcases hcase with ⟨q1, hr⟩ | ⟨rfl, q2, hr⟩ | ⟨rfl, rfl, q3, hr⟩ | ⟨rfl, rfl, rfl, hm, hr⟩ | ⟨rfl, rfl, rfl, hm, hr⟩
  · subst hr
    obtain ⟨c0, c1, c2, f0, f1, f2, lt⟩ := B4
    go_wp2_with fail
    refine bodyPost_ret (v := .tuple #[rv zr, .string ⟨#[]⟩, .int .i64 2]) (by simp [results, Try.results28, go_sem, c0, c1, c2, rv, zr, hs0]) rfl ⟨rfl, ?_⟩
    exact ((hb4.setCell (Nat.le_refl _) _).setCell (Nat.le_refl _) _).setCell (Nat.le_refl _) _
  · subst hr
    obtain ⟨c0, c1, c2, f0, f1, f2, lt⟩ := B4
    go_wp2_with fail
    refine bodyPost_ret (v := .tuple #[rv zr, .string ⟨#[]⟩, .int .i64 2]) (by simp [results, Try.results28, go_sem, c0, c1, c2, rv, zr, hs0]) rfl ⟨rfl, ?_⟩
    exact ((hb4.setCell (Nat.le_refl _) _).setCell (Nat.le_refl _) _).setCell (Nat.le_refl _) _
  · subst hr
    obtain ⟨c0, c1, c2, f0, f1, f2, lt⟩ := B4
    go_wp2_with fail
    refine bodyPost_ret (v := .tuple #[rv zr, .string ⟨#[]⟩, .int .i64 2]) (by simp [results, Try.results28, go_sem, c0, c1, c2, rv, zr, hs0]) rfl ⟨rfl, ?_⟩
    exact ((hb4.setCell (Nat.le_refl _) _).setCell (Nat.le_refl _) _).setCell (Nat.le_refl _) _
  · subst hr
    have HM := Lib.hid hm
    clear hm
    go_wp2_with fail
    refine (mayrec_walk ⟨k, t, x⟩ false _ ⟨fun h => (by cases h), fun h => absurd h HM.out⟩).mono ?_
    rintro e w5 ⟨rfl, g5⟩
    have hb5 := hb4.trans (g5.mono hb4.size)
    obtain ⟨c0, c1, c2, f0, f1, f2, lt⟩ := B4.keep g5
    clear g5 hb4 B4 N1
    go_wp2_with fail
    refine bodyPost_ret (v := .tuple #[rv zr, .string ⟨#[]⟩, .int .i64 2]) (by simp [results, Try.results28, go_sem, c0, c1, c2, rv, zr, hs0]) rfl ⟨rfl, ?_⟩
    exact ((hb5.setCell (Nat.le_refl _) _).setCell (Nat.le_refl _) _).setCell (Nat.le_refl _) _
  · subst hr
    have HM := Lib.hid hm
    clear hm
    go_wp2_with fail
    refine (mayrec_walk ⟨k, t, x⟩ true _ ⟨fun _ => HM.out, fun _ => rfl⟩).mono ?_
    rintro e w5 ⟨rfl, g5⟩
    have hb5 := hb4.trans (g5.mono hb4.size)
    obtain ⟨c0, c1, c2, f0, f1, f2, lt⟩ := B4.keep g5
    obtain ⟨n0, n1, n2, m0, m1, m2, lt2⟩ := N1.keep g5
    clear g5 hb4 B4 N1
    go_wp2_with fail
    refine bodyPost_ret (v := .tuple #[rv ⟨k, t, x⟩, .string (str s3), .int .i64 0]) (by simp [results, Try.results28, go_sem, c0, c1, c2, rv]) rfl ⟨rfl, ?_⟩
    exact ((hb5.setCell (Nat.le_refl _) _).setCell (Nat.le_refl _) _).setCell (Nat.le_refl _) _
end Go.Proofs.Ytdeenkpkcibebaa
