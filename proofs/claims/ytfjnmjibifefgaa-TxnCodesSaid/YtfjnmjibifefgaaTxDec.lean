/- The walks of Decode of txn and of headgateref12. -/
import Derived.Test.YtfjnmjibifefgaaTxCode
import Derived.Deep.RegionHeld3
namespace Go.Proofs.Ytfjnmjibifefgaa
open Go.RowKit Vm
set_option linter.unusedVariables false

theorem suffix12 {s : ByteArray} {a b : List UInt8} (e : s.data.toList = a ++ b) (hs : s.size ≤ 140737488355328) : (str b).size ≤ 140737488355328 := by
  have := congrArg List.length e
  rw [List.length_append, toList_length] at this
  rw [str_size]; omega
theorem three {vs : List Int} (h : vs.length = 3) : ∃ k p m, vs = [k, p, m] := by
  match vs, h with
  | [k, p, m], _ => exact ⟨k, p, m, rfl⟩
theorem decF_none3 {s : List UInt8} (h : takeN 3 s = none) : decF s = none := by unfold decF; rw [h]
theorem decF_rest {s r : List UInt8} {k p m : Int} (h : takeN 3 s = some ([k, p, m], r)) (hr : r ≠ []) : decF s = none := by
  unfold decF; rw [h]
  cases r with
  | nil => exact absurd rfl hr
  | cons y t => rfl
theorem decF_three {s : List UInt8} {k p m : Int} (h : takeN 3 s = some ([k, p, m], [])) : decF s = if MayN k p m then some ⟨k, p, m⟩ else none := by
  unfold decF; rw [h]
theorem str_nempty {r : List UInt8} (h : r ≠ []) : (str r).toList.isEmpty = false ∧ 0 < (str r).size ∧ ¬ str r = ByteArray.empty := by
  have h1 : 0 < r.length := List.length_pos_iff.2 h
  refine ⟨?_, by rw [str_size]; exact h1, fun hh => ?_⟩
  · rw [ByteArray.toList_eq, str_toList]
    cases r with
    | nil => exact absurd rfl h
    | cons y t => rfl
  · have := congrArg (fun x : ByteArray => x.data.toList) hh
    simp only [str_toList] at this
    exact h this
def DnPost (w : World) (X : Nt) (E : Int) (e : Ending) (w' : World) : Prop := e = .returned (.tuple #[.agg #[.int .i64 X.k, .int .i64 X.p, .int .i64 X.m], .int .i64 E]) ∧ Below w.heap.size w w'
set_option maxRecDepth 100000 in
set_option maxHeartbeats 4000000 in
theorem tdec_walk (s : ByteArray) (w : World) (X : Nt) (E : Int) (hX : DecIs s.data.toList X E) (hs : s.size ≤ 140737488355328) :
    Calls Try.prog 31 #[.string s] w (DnPost w X E) := by
  have hal := balloc w (.cells #[.int .i64 0, .int .i64 0, .int .i64 0] 50)
  have hWh := Whole.new w 50 #[.int .i64 0, .int .i64 0, .int .i64 0]
  have hzz : w.heap.size < (w.alloc (.cells #[.int .i64 0, .int .i64 0, .int .i64 0] 50)).heap.size := by simp
  have hs0 : str [] = ⟨#[]⟩ := rfl
  have HX := Lib.hid hX
  clear hX
  cases hT : takeN 3 s.data.toList with
  | none =>
    obtain ⟨rfl, rfl⟩ : X = nt0 ∧ E = 2 := by
      rcases HX.out with ⟨h, _⟩ | ⟨_, h⟩
      · rw [decF_none3 hT] at h; cases h
      · exact h
    have HT := Lib.hid hT
    clear hT HX
    go_enter Try.func31, Try.ntmps31
    go_wp2_with fail
    refine (take_none_at s 3 3 rfl _ hs (by omega) HT.out).mono ?_
    rintro e w1 ⟨rfl, g1⟩
    have hWh1 := hWh.keep g1
    have b1 := gtrans hal g1
    have hz1 : w.heap.size < w1.heap.size := Nat.lt_of_lt_of_le hzz g1.size
    clear hal
    have e0 := hWh1.cell 0
    have e1 := hWh1.cell 1
    have e2 := hWh1.cell 2
    simp only [List.getElem?_toArray, List.getElem?_cons_zero, List.getElem?_cons_succ] at e0 e1 e2
    have f0 := hWh1.frozen 0
    have f1 := hWh1.frozen 1
    have f2 := hWh1.frozen 2
    go_wp2_with fail
    refine bodyPost_ret (v := .tuple #[.agg #[.int .i64 0, .int .i64 0, .int .i64 0], .int .i64 2]) (by simp [results, Try.results31, go_sem, e0, e1, e2]) rfl ⟨rfl, ?_⟩
    exact ((b1.setCell (p := ⟨w.heap.size, 0, none⟩) (Nat.le_refl _) _).setCell (p := ⟨w.heap.size, 1, none⟩) (Nat.le_refl _) _).setCell (p := ⟨w.heap.size, 2, none⟩) (Nat.le_refl _) _
  | some q =>
    obtain ⟨vs, r⟩ := q
    obtain ⟨k, p, m, rfl⟩ := three (takeN_len hT)
    have HT := Lib.hid hT
    by_cases hr : r = []
    · subst hr
      have hD := decF_three hT
      have hc : (X = ⟨k, p, m⟩ ∧ E = 0 ∧ MayN k p m) ∨ (X = nt0 ∧ E = 2 ∧ ¬ MayN k p m) := by
        by_cases hm : MayN k p m
        · rw [if_pos hm] at hD
          rcases HX.out with ⟨h, h2⟩ | ⟨h, _⟩
          · rw [hD] at h; injection h with h; exact .inl ⟨h.symm, h2, hm⟩
          · rw [hD] at h; cases h
        · rw [if_neg hm] at hD
          rcases HX.out with ⟨h, _⟩ | ⟨_, h, h2⟩
          · rw [hD] at h; cases h
          · exact .inr ⟨h, h2, hm⟩
      clear hT hD HX
      rcases hc with ⟨rfl, rfl, hm⟩ | ⟨rfl, rfl, hm⟩
      · have HC := Lib.hid (fun w => tcheck_walk k p m 0 w (.inl ⟨hm, rfl⟩))
        clear hm
        go_enter Try.func31, Try.ntmps31
        go_wp2_with fail
        refine (take_all_at s 3 3 rfl [k, p, m] [] _ hs (by omega) HT.out).mono ?_
        rw [hs0]
        rintro e w1 ⟨a1, c1, rfl, own1, g1⟩
        have sl := own_sl own1
        obtain ⟨b1, x1, rfl, l1, k0⟩ := sl.at (j := 0) (by simp [i64s])
        obtain ⟨b2, x2, e2, l2, k1⟩ := sl.at (j := 1) (by simp [i64s])
        obtain ⟨rfl, rfl⟩ : b1 = b2 ∧ x1 = x2 := by simpa using e2
        obtain ⟨b3, x3, e3, l3, k2⟩ := sl.at (j := 2) (by simp [i64s])
        obtain ⟨rfl, rfl⟩ : b1 = b3 ∧ x1 = x3 := by simpa using e3
        simp [i64s] at k0 k1 k2
        have hW2 := hWh.keep g1
        have b2 := gtrans hal g1
        have hz1 : w.heap.size < w1.heap.size := Nat.lt_of_lt_of_le hzz g1.size
        clear own1 sl e2 e3 hal l2 l3
        go_wp2_with fail
        have hS0 : w1.drew.cell? ⟨b1, x1, none⟩ = some (.int .i64 k) ∧ w1.drew.cell? ⟨b1, x1 + 1, none⟩ = some (.int .i64 p) ∧ w1.drew.cell? ⟨b1, x1 + 2, none⟩ = some (.int .i64 m) := ⟨k0, k1, k2⟩
        go_region_held3 (fun w' => w'.cell? ⟨b1, x1, none⟩ = some (.int .i64 k) ∧ w'.cell? ⟨b1, x1 + 1, none⟩ = some (.int .i64 p) ∧ w'.cell? ⟨b1, x1 + 2, none⟩ = some (.int .i64 m))
          (first | with_reducible assumption | (refine ⟨?_, ?_, ?_⟩ <;> (refine (World.cell?_alloc_past _ _ _ ?_).trans ?_ <;> with_reducible assumption)))
          (first | fail | fail)
        obtain ⟨V, hV⟩ : ∃ V, V = (w1.alloc (.cells #[.int .i64 k, .int .i64 p, .int .i64 m] 50)).drew := ⟨_, rfl⟩
        rw [← hV]
        have T0 : Whole V w1.heap.size 50 #[.int .i64 k, .int .i64 p, .int .i64 m] := by rw [hV]; exact Whole.new w1 50 _
        have B2 : Below w1.heap.size w1 V := by rw [hV]; exact (balloc w1 _).drew
        have z2 : w1.heap.size < V.heap.size := by rw [hV]; simp
        clear hV hS0 k0 k1 k2
        have t0 := T0.cell 0
        have t1 := T0.cell 1
        have t2 := T0.cell 2
        simp only [List.getElem?_toArray, List.getElem?_cons_zero, List.getElem?_cons_succ] at t0 t1 t2
        go_wp2_with fail
        refine (HC.out _).mono ?_
        rintro e w4 ⟨rfl, g4⟩
        have hWn := T0.keep g4
        have hW4 := (hW2.keep B2).keep g4
        have b4 := gtrans (gtrans b2 B2) g4
        have hz4 : w1.heap.size < w4.heap.size := Nat.lt_of_lt_of_le z2 g4.size
        have hz5 : w.heap.size < w4.heap.size := by omega
        clear T0 t0 t1 t2 g4 B2
        have e3 := hWn.cell 0
        have e4 := hWn.cell 1
        have e5 := hWn.cell 2
        simp only [List.getElem?_toArray, List.getElem?_cons_zero, List.getElem?_cons_succ] at e3 e4 e5
        have e0 := hW4.cell 0
        have e1 := hW4.cell 1
        have e2 := hW4.cell 2
        simp only [List.getElem?_toArray, List.getElem?_cons_zero, List.getElem?_cons_succ] at e0 e1 e2
        have f0 := hW4.frozen 0
        have f1 := hW4.frozen 1
        have f2 := hW4.frozen 2
        go_wp2_with fail
        refine bodyPost_ret (v := .tuple #[.agg #[.int .i64 k, .int .i64 p, .int .i64 m], .int .i64 0]) (by simp [results, Try.results31, go_sem, e0, e1, e2]) rfl ⟨rfl, ?_⟩
        exact ((b4.setCell (p := ⟨w.heap.size, 0, none⟩) (Nat.le_refl _) _).setCell (p := ⟨w.heap.size, 1, none⟩) (Nat.le_refl _) _).setCell (p := ⟨w.heap.size, 2, none⟩) (Nat.le_refl _) _
      · have HC := Lib.hid (fun w => tcheck_walk k p m 1 w (.inr ⟨hm, rfl⟩))
        clear hm
        go_enter Try.func31, Try.ntmps31
        go_wp2_with fail
        refine (take_all_at s 3 3 rfl [k, p, m] [] _ hs (by omega) HT.out).mono ?_
        rw [hs0]
        rintro e w1 ⟨a1, c1, rfl, own1, g1⟩
        have sl := own_sl own1
        obtain ⟨b1, x1, rfl, l1, k0⟩ := sl.at (j := 0) (by simp [i64s])
        obtain ⟨b2, x2, e2, l2, k1⟩ := sl.at (j := 1) (by simp [i64s])
        obtain ⟨rfl, rfl⟩ : b1 = b2 ∧ x1 = x2 := by simpa using e2
        obtain ⟨b3, x3, e3, l3, k2⟩ := sl.at (j := 2) (by simp [i64s])
        obtain ⟨rfl, rfl⟩ : b1 = b3 ∧ x1 = x3 := by simpa using e3
        simp [i64s] at k0 k1 k2
        have hW2 := hWh.keep g1
        have b2 := gtrans hal g1
        have hz1 : w.heap.size < w1.heap.size := Nat.lt_of_lt_of_le hzz g1.size
        clear own1 sl e2 e3 hal l2 l3
        go_wp2_with fail
        have hS0 : w1.drew.cell? ⟨b1, x1, none⟩ = some (.int .i64 k) ∧ w1.drew.cell? ⟨b1, x1 + 1, none⟩ = some (.int .i64 p) ∧ w1.drew.cell? ⟨b1, x1 + 2, none⟩ = some (.int .i64 m) := ⟨k0, k1, k2⟩
        go_region_held3 (fun w' => w'.cell? ⟨b1, x1, none⟩ = some (.int .i64 k) ∧ w'.cell? ⟨b1, x1 + 1, none⟩ = some (.int .i64 p) ∧ w'.cell? ⟨b1, x1 + 2, none⟩ = some (.int .i64 m))
          (first | with_reducible assumption | (refine ⟨?_, ?_, ?_⟩ <;> (refine (World.cell?_alloc_past _ _ _ ?_).trans ?_ <;> with_reducible assumption)))
          (first | fail | fail)
        obtain ⟨V, hV⟩ : ∃ V, V = (w1.alloc (.cells #[.int .i64 k, .int .i64 p, .int .i64 m] 50)).drew := ⟨_, rfl⟩
        rw [← hV]
        have T0 : Whole V w1.heap.size 50 #[.int .i64 k, .int .i64 p, .int .i64 m] := by rw [hV]; exact Whole.new w1 50 _
        have B2 : Below w1.heap.size w1 V := by rw [hV]; exact (balloc w1 _).drew
        have z2 : w1.heap.size < V.heap.size := by rw [hV]; simp
        clear hV hS0 k0 k1 k2
        have t0 := T0.cell 0
        have t1 := T0.cell 1
        have t2 := T0.cell 2
        simp only [List.getElem?_toArray, List.getElem?_cons_zero, List.getElem?_cons_succ] at t0 t1 t2
        go_wp2_with fail
        refine (HC.out _).mono ?_
        rintro e w4 ⟨rfl, g4⟩
        have hWn := T0.keep g4
        have hW4 := (hW2.keep B2).keep g4
        have b4 := gtrans (gtrans b2 B2) g4
        have hz4 : w1.heap.size < w4.heap.size := Nat.lt_of_lt_of_le z2 g4.size
        have hz5 : w.heap.size < w4.heap.size := by omega
        clear T0 t0 t1 t2 g4 B2
        have e0 := hW4.cell 0
        have e1 := hW4.cell 1
        have e2 := hW4.cell 2
        simp only [List.getElem?_toArray, List.getElem?_cons_zero, List.getElem?_cons_succ] at e0 e1 e2
        have f0 := hW4.frozen 0
        have f1 := hW4.frozen 1
        have f2 := hW4.frozen 2
        go_wp2_with fail
        refine bodyPost_ret (v := .tuple #[.agg #[.int .i64 0, .int .i64 0, .int .i64 0], .int .i64 2]) (by simp [results, Try.results31, go_sem, e0, e1, e2]) rfl ⟨rfl, ?_⟩
        exact ((b4.setCell (p := ⟨w.heap.size, 0, none⟩) (Nat.le_refl _) _).setCell (p := ⟨w.heap.size, 1, none⟩) (Nat.le_refl _) _).setCell (p := ⟨w.heap.size, 2, none⟩) (Nat.le_refl _) _
    · obtain ⟨rfl, rfl⟩ : X = nt0 ∧ E = 2 := by
        rcases HX.out with ⟨h, _⟩ | ⟨_, h⟩
        · rw [decF_rest hT hr] at h; cases h
        · exact h
      obtain ⟨hn1, hn2, hn4⟩ := str_nempty hr
      have hn3 : 0 < ((str r).size : Int) := by omega
      clear hT HX hr
      go_enter Try.func31, Try.ntmps31
      go_wp2_with fail
      refine (take_all_at s 3 3 rfl [k, p, m] r _ hs (by omega) HT.out).mono ?_
      rintro e w1 ⟨a1, c1, rfl, own1, g1⟩
      have hWh1 := hWh.keep g1
      have b1 := gtrans hal g1
      have hz1 : w.heap.size < w1.heap.size := Nat.lt_of_lt_of_le hzz g1.size
      clear hal own1
      have e0 := hWh1.cell 0
      have e1 := hWh1.cell 1
      have e2 := hWh1.cell 2
      simp only [List.getElem?_toArray, List.getElem?_cons_zero, List.getElem?_cons_succ] at e0 e1 e2
      have f0 := hWh1.frozen 0
      have f1 := hWh1.frozen 1
      have f2 := hWh1.frozen 2
      go_wp2_with fail
      refine bodyPost_ret (v := .tuple #[.agg #[.int .i64 0, .int .i64 0, .int .i64 0], .int .i64 2]) (by simp [results, Try.results31, go_sem, e0, e1, e2]) rfl ⟨rfl, ?_⟩
      exact ((b1.setCell (p := ⟨w.heap.size, 0, none⟩) (Nat.le_refl _) _).setCell (p := ⟨w.heap.size, 1, none⟩) (Nat.le_refl _) _).setCell (p := ⟨w.heap.size, 2, none⟩) (Nat.le_refl _) _
set_option maxRecDepth 100000 in
set_option maxHeartbeats 4000000 in
theorem rdec12_walk (s : ByteArray) (w : World) (X : Nt) (E : Int) (hX : DecIs s.data.toList X E) (hs : s.size ≤ 140737488355328) :
    Calls Try.prog 32 #[.string s] w (DnPost w X E) := by
  have hal := balloc w (.cells #[.int .i64 0, .int .i64 0, .int .i64 0] 50)
  have hWh := Whole.new w 50 #[.int .i64 0, .int .i64 0, .int .i64 0]
  have hzz : w.heap.size < (w.alloc (.cells #[.int .i64 0, .int .i64 0, .int .i64 0] 50)).heap.size := by simp
  have hs0 : str [] = ⟨#[]⟩ := rfl
  have HX := Lib.hid hX
  clear hX
  cases hT : takeN 3 s.data.toList with
  | none =>
    obtain ⟨rfl, rfl⟩ : X = nt0 ∧ E = 2 := by
      rcases HX.out with ⟨h, _⟩ | ⟨_, h⟩
      · rw [decF_none3 hT] at h; cases h
      · exact h
    have HT := Lib.hid hT
    clear hT HX
    go_enter Try.func32, Try.ntmps32
    go_wp2_with fail
    refine (ref_take_all_none s 3 _ hs (by omega) HT.out).mono ?_
    rintro e w1 ⟨rfl, g1⟩
    have hWh1 := hWh.keep g1
    have b1 := gtrans hal g1
    have hz1 : w.heap.size < w1.heap.size := Nat.lt_of_lt_of_le hzz g1.size
    clear hal
    have e0 := hWh1.cell 0
    have e1 := hWh1.cell 1
    have e2 := hWh1.cell 2
    simp only [List.getElem?_toArray, List.getElem?_cons_zero, List.getElem?_cons_succ] at e0 e1 e2
    have f0 := hWh1.frozen 0
    have f1 := hWh1.frozen 1
    have f2 := hWh1.frozen 2
    go_wp2_with fail
    refine bodyPost_ret (v := .tuple #[.agg #[.int .i64 0, .int .i64 0, .int .i64 0], .int .i64 2]) (by simp [results, Try.results32, go_sem, e0, e1, e2]) rfl ⟨rfl, ?_⟩
    exact ((b1.setCell (p := ⟨w.heap.size, 0, none⟩) (Nat.le_refl _) _).setCell (p := ⟨w.heap.size, 1, none⟩) (Nat.le_refl _) _).setCell (p := ⟨w.heap.size, 2, none⟩) (Nat.le_refl _) _
  | some q =>
    obtain ⟨vs, r⟩ := q
    obtain ⟨k, p, m, rfl⟩ := three (takeN_len hT)
    have HT := Lib.hid hT
    by_cases hr : r = []
    · subst hr
      have hD := decF_three hT
      have hc : (X = ⟨k, p, m⟩ ∧ E = 0 ∧ MayN k p m) ∨ (X = nt0 ∧ E = 2 ∧ ¬ MayN k p m) := by
        by_cases hm : MayN k p m
        · rw [if_pos hm] at hD
          rcases HX.out with ⟨h, h2⟩ | ⟨h, _⟩
          · rw [hD] at h; injection h with h; exact .inl ⟨h.symm, h2, hm⟩
          · rw [hD] at h; cases h
        · rw [if_neg hm] at hD
          rcases HX.out with ⟨h, _⟩ | ⟨_, h, h2⟩
          · rw [hD] at h; cases h
          · exact .inr ⟨h, h2, hm⟩
      clear hT hD HX
      rcases hc with ⟨rfl, rfl, hm⟩ | ⟨rfl, rfl, hm⟩
      · have HC := Lib.hid (fun w => rmay12_walk k p m true w (.inl ⟨hm, rfl⟩))
        clear hm
        go_enter Try.func32, Try.ntmps32
        go_wp2_with fail
        refine (ref_take_all_some s 3 [k, p, m] [] _ hs (by omega) HT.out).mono ?_
        rw [hs0]
        rintro e w1 ⟨a1, c1, rfl, own1, g1⟩
        have sl := own_sl own1
        obtain ⟨b1, x1, rfl, l1, k0⟩ := sl.at (j := 0) (by simp [i64s])
        obtain ⟨b2, x2, e2, l2, k1⟩ := sl.at (j := 1) (by simp [i64s])
        obtain ⟨rfl, rfl⟩ : b1 = b2 ∧ x1 = x2 := by simpa using e2
        obtain ⟨b3, x3, e3, l3, k2⟩ := sl.at (j := 2) (by simp [i64s])
        obtain ⟨rfl, rfl⟩ : b1 = b3 ∧ x1 = x3 := by simpa using e3
        simp [i64s] at k0 k1 k2
        have hW2 := hWh.keep g1
        have b2 := gtrans hal g1
        have hz1 : w.heap.size < w1.heap.size := Nat.lt_of_lt_of_le hzz g1.size
        clear own1 sl e2 e3 hal l2 l3
        go_wp2_with fail
        have hS0 : w1.drew.cell? ⟨b1, x1, none⟩ = some (.int .i64 k) ∧ w1.drew.cell? ⟨b1, x1 + 1, none⟩ = some (.int .i64 p) ∧ w1.drew.cell? ⟨b1, x1 + 2, none⟩ = some (.int .i64 m) := ⟨k0, k1, k2⟩
        go_region_held3 (fun w' => w'.cell? ⟨b1, x1, none⟩ = some (.int .i64 k) ∧ w'.cell? ⟨b1, x1 + 1, none⟩ = some (.int .i64 p) ∧ w'.cell? ⟨b1, x1 + 2, none⟩ = some (.int .i64 m))
          (first | with_reducible assumption | (refine ⟨?_, ?_, ?_⟩ <;> (refine (World.cell?_alloc_past _ _ _ ?_).trans ?_ <;> with_reducible assumption)))
          (first | fail | fail)
        obtain ⟨V, hV⟩ : ∃ V, V = (w1.alloc (.cells #[.int .i64 k, .int .i64 p, .int .i64 m] 50)).drew := ⟨_, rfl⟩
        rw [← hV]
        have T0 : Whole V w1.heap.size 50 #[.int .i64 k, .int .i64 p, .int .i64 m] := by rw [hV]; exact Whole.new w1 50 _
        have B2 : Below w1.heap.size w1 V := by rw [hV]; exact (balloc w1 _).drew
        have z2 : w1.heap.size < V.heap.size := by rw [hV]; simp
        clear hV hS0 k0 k1 k2
        have t0 := T0.cell 0
        have t1 := T0.cell 1
        have t2 := T0.cell 2
        simp only [List.getElem?_toArray, List.getElem?_cons_zero, List.getElem?_cons_succ] at t0 t1 t2
        go_wp2_with fail
        refine (HC.out _).mono ?_
        rintro e w4 ⟨rfl, g4⟩
        have hWn := T0.keep g4
        have hW4 := (hW2.keep B2).keep g4
        have b4 := gtrans (gtrans b2 B2) g4
        have hz4 : w1.heap.size < w4.heap.size := Nat.lt_of_lt_of_le z2 g4.size
        have hz5 : w.heap.size < w4.heap.size := by omega
        clear T0 t0 t1 t2 g4 B2
        have e3 := hWn.cell 0
        have e4 := hWn.cell 1
        have e5 := hWn.cell 2
        simp only [List.getElem?_toArray, List.getElem?_cons_zero, List.getElem?_cons_succ] at e3 e4 e5
        have e0 := hW4.cell 0
        have e1 := hW4.cell 1
        have e2 := hW4.cell 2
        simp only [List.getElem?_toArray, List.getElem?_cons_zero, List.getElem?_cons_succ] at e0 e1 e2
        have f0 := hW4.frozen 0
        have f1 := hW4.frozen 1
        have f2 := hW4.frozen 2
        go_wp2_with fail
        refine bodyPost_ret (v := .tuple #[.agg #[.int .i64 k, .int .i64 p, .int .i64 m], .int .i64 0]) (by simp [results, Try.results32, go_sem, e0, e1, e2]) rfl ⟨rfl, ?_⟩
        exact ((b4.setCell (p := ⟨w.heap.size, 0, none⟩) (Nat.le_refl _) _).setCell (p := ⟨w.heap.size, 1, none⟩) (Nat.le_refl _) _).setCell (p := ⟨w.heap.size, 2, none⟩) (Nat.le_refl _) _
      · have HC := Lib.hid (fun w => rmay12_walk k p m false w (.inr ⟨hm, rfl⟩))
        clear hm
        go_enter Try.func32, Try.ntmps32
        go_wp2_with fail
        refine (ref_take_all_some s 3 [k, p, m] [] _ hs (by omega) HT.out).mono ?_
        rw [hs0]
        rintro e w1 ⟨a1, c1, rfl, own1, g1⟩
        have sl := own_sl own1
        obtain ⟨b1, x1, rfl, l1, k0⟩ := sl.at (j := 0) (by simp [i64s])
        obtain ⟨b2, x2, e2, l2, k1⟩ := sl.at (j := 1) (by simp [i64s])
        obtain ⟨rfl, rfl⟩ : b1 = b2 ∧ x1 = x2 := by simpa using e2
        obtain ⟨b3, x3, e3, l3, k2⟩ := sl.at (j := 2) (by simp [i64s])
        obtain ⟨rfl, rfl⟩ : b1 = b3 ∧ x1 = x3 := by simpa using e3
        simp [i64s] at k0 k1 k2
        have hW2 := hWh.keep g1
        have b2 := gtrans hal g1
        have hz1 : w.heap.size < w1.heap.size := Nat.lt_of_lt_of_le hzz g1.size
        clear own1 sl e2 e3 hal l2 l3
        go_wp2_with fail
        have hS0 : w1.drew.cell? ⟨b1, x1, none⟩ = some (.int .i64 k) ∧ w1.drew.cell? ⟨b1, x1 + 1, none⟩ = some (.int .i64 p) ∧ w1.drew.cell? ⟨b1, x1 + 2, none⟩ = some (.int .i64 m) := ⟨k0, k1, k2⟩
        go_region_held3 (fun w' => w'.cell? ⟨b1, x1, none⟩ = some (.int .i64 k) ∧ w'.cell? ⟨b1, x1 + 1, none⟩ = some (.int .i64 p) ∧ w'.cell? ⟨b1, x1 + 2, none⟩ = some (.int .i64 m))
          (first | with_reducible assumption | (refine ⟨?_, ?_, ?_⟩ <;> (refine (World.cell?_alloc_past _ _ _ ?_).trans ?_ <;> with_reducible assumption)))
          (first | fail | fail)
        obtain ⟨V, hV⟩ : ∃ V, V = (w1.alloc (.cells #[.int .i64 k, .int .i64 p, .int .i64 m] 50)).drew := ⟨_, rfl⟩
        rw [← hV]
        have T0 : Whole V w1.heap.size 50 #[.int .i64 k, .int .i64 p, .int .i64 m] := by rw [hV]; exact Whole.new w1 50 _
        have B2 : Below w1.heap.size w1 V := by rw [hV]; exact (balloc w1 _).drew
        have z2 : w1.heap.size < V.heap.size := by rw [hV]; simp
        clear hV hS0 k0 k1 k2
        have t0 := T0.cell 0
        have t1 := T0.cell 1
        have t2 := T0.cell 2
        simp only [List.getElem?_toArray, List.getElem?_cons_zero, List.getElem?_cons_succ] at t0 t1 t2
        go_wp2_with fail
        refine (HC.out _).mono ?_
        rintro e w4 ⟨rfl, g4⟩
        have hWn := T0.keep g4
        have hW4 := (hW2.keep B2).keep g4
        have b4 := gtrans (gtrans b2 B2) g4
        have hz4 : w1.heap.size < w4.heap.size := Nat.lt_of_lt_of_le z2 g4.size
        have hz5 : w.heap.size < w4.heap.size := by omega
        clear T0 t0 t1 t2 g4 B2
        have e0 := hW4.cell 0
        have e1 := hW4.cell 1
        have e2 := hW4.cell 2
        simp only [List.getElem?_toArray, List.getElem?_cons_zero, List.getElem?_cons_succ] at e0 e1 e2
        have f0 := hW4.frozen 0
        have f1 := hW4.frozen 1
        have f2 := hW4.frozen 2
        go_wp2_with fail
        refine bodyPost_ret (v := .tuple #[.agg #[.int .i64 0, .int .i64 0, .int .i64 0], .int .i64 2]) (by simp [results, Try.results32, go_sem, e0, e1, e2]) rfl ⟨rfl, ?_⟩
        exact ((b4.setCell (p := ⟨w.heap.size, 0, none⟩) (Nat.le_refl _) _).setCell (p := ⟨w.heap.size, 1, none⟩) (Nat.le_refl _) _).setCell (p := ⟨w.heap.size, 2, none⟩) (Nat.le_refl _) _
    · obtain ⟨rfl, rfl⟩ : X = nt0 ∧ E = 2 := by
        rcases HX.out with ⟨h, _⟩ | ⟨_, h⟩
        · rw [decF_rest hT hr] at h; cases h
        · exact h
      obtain ⟨hn1, hn2, hn4⟩ := str_nempty hr
      have hn3 : 0 < ((str r).size : Int) := by omega
      clear hT HX hr
      go_enter Try.func32, Try.ntmps32
      go_wp2_with fail
      refine (ref_take_all_some s 3 [k, p, m] r _ hs (by omega) HT.out).mono ?_
      rintro e w1 ⟨a1, c1, rfl, own1, g1⟩
      have hWh1 := hWh.keep g1
      have b1 := gtrans hal g1
      have hz1 : w.heap.size < w1.heap.size := Nat.lt_of_lt_of_le hzz g1.size
      clear hal own1
      have e0 := hWh1.cell 0
      have e1 := hWh1.cell 1
      have e2 := hWh1.cell 2
      simp only [List.getElem?_toArray, List.getElem?_cons_zero, List.getElem?_cons_succ] at e0 e1 e2
      have f0 := hWh1.frozen 0
      have f1 := hWh1.frozen 1
      have f2 := hWh1.frozen 2
      go_wp2_with fail
      refine bodyPost_ret (v := .tuple #[.agg #[.int .i64 0, .int .i64 0, .int .i64 0], .int .i64 2]) (by simp [results, Try.results32, go_sem, e0, e1, e2]) rfl ⟨rfl, ?_⟩
      exact ((b1.setCell (p := ⟨w.heap.size, 0, none⟩) (Nat.le_refl _) _).setCell (p := ⟨w.heap.size, 1, none⟩) (Nat.le_refl _) _).setCell (p := ⟨w.heap.size, 2, none⟩) (Nat.le_refl _) _
end Go.Proofs.Ytfjnmjibifefgaa
