/- The walk of fold.Decode. -/
import Derived.Test.YtnjojbanbcahnaaFoldEnc
import Derived.Test.YtnjojbanbcahnaaTakeAll
import Derived.BigRegion
import Derived.Deep.RegionHeld3
namespace Go.Proofs.Ytnjojbanbcahnaa
open Go.RowKit Vm Fo
set_option linter.unusedVariables false

theorem takeN_of {n : Nat} {s r : List UInt8} {vs : List Int} (h : takeN n s = some (vs, r)) : (∀ v ∈ vs, I64 v) ∧ s = putN vs ++ r := by
  induction n generalizing s vs with
  | zero => cases h; exact ⟨(fun v hv => by cases hv), rfl⟩
  | succ k ih =>
    cases h1 : takeL s with
    | none => rw [takeN_fail h1] at h; cases h
    | some p =>
      obtain ⟨v, r'⟩ := p
      rw [takeN_step h1] at h
      cases h2 : takeN k r' with
      | none => rw [h2] at h; cases h
      | some q =>
        obtain ⟨vs', r''⟩ := q
        rw [h2] at h
        simp at h
        obtain ⟨rfl, rfl⟩ := h
        obtain ⟨hv, hs⟩ := takeL_some h1
        obtain ⟨i1, i2⟩ := ih h2
        refine ⟨fun x hx => ?_, by rw [hs, i2, putN_cons, List.append_assoc]⟩
        rcases List.mem_cons.1 hx with rfl | hx
        · exact hv
        · exact i1 x hx
theorem ten_nums {vs : List Int} (h : vs.length = 10) : ∃ a : Ag, vs = numsA a := by
  match vs, h with
  | [v0, v1, v2, v3, v4, v5, v6, v7, v8, v9], _ => exact ⟨⟨v0, v1, v2, v3, v4, v5, v6, v7, v8, v9⟩, rfl⟩
theorem nums_wf {a : Ag} (h : ∀ v ∈ numsA a, I64 v) : AgWf a :=
  ⟨h _ (by simp [numsA]), h _ (by simp [numsA]), h _ (by simp [numsA]), h _ (by simp [numsA]), h _ (by simp [numsA]), h _ (by simp [numsA]), h _ (by simp [numsA]), h _ (by simp [numsA]), h _ (by simp [numsA]), h _ (by simp [numsA])⟩

set_option maxRecDepth 100000 in
set_option maxHeartbeats 1000000 in
theorem fdec_none (s : ByteArray) (w : World) (hs : s.size ≤ 140737488355328) (h : takeN 10 s.data.toList = none) :
    Calls Try.prog 42 #[.string s] w fun e w' => e = .returned (.tuple #[av zeroA, .int .i64 2]) ∧ Below w.heap.size w w' := by
  have H := Lib.hid (fun w => take_none_at s 10 10 rfl w hs (by omega) h)
  have hR := Lib.hid (Whole.new w 53 (avc zeroA))
  have hbel : Below w.heap.size w (w.alloc (.cells (avc zeroA) 53)) := (Below.refl _ _).alloc (Nat.le_refl _) _
  clear h
  go_enter Try.func42, Try.ntmps42
  go_wp2_with fail
  refine (H.out _).mono ?_
  rintro e w1 ⟨rfl, g1⟩
  have hR1 := hR.out.keep g1
  obtain ⟨c0, c1, c2, c3, c4, c5, c6, c7, c8, c9, f0, f1, f2, f3, f4, f5, f6, f7, f8, f9⟩ := hR1.ten
  have hbel1 := hbel.trans (g1.mono hbel.size)
  clear g1 hbel hR hR1
  go_wp2_with fail
  refine bodyPost_ret ?_ rfl ⟨rfl, ?_⟩
  · simp [results, Try.results42, go_sem, c0, c1, c2, c3, c4, c5, c6, c7, c8, c9, zeroA]
  · exact below_setTen hbel1 (Nat.le_refl _) zeroA

set_option maxRecDepth 100000 in
set_option maxHeartbeats 1000000 in
theorem fdec_rest (s : ByteArray) (vs : List Int) (r : List UInt8) (w : World) (hs : s.size ≤ 140737488355328) (h : takeN 10 s.data.toList = some (vs, r)) (hr : r ≠ []) :
    Calls Try.prog 42 #[.string s] w fun e w' => e = .returned (.tuple #[av zeroA, .int .i64 2]) ∧ Below w.heap.size w w' := by
  have H := Lib.hid (fun w => take_all_at s 10 10 rfl vs r w hs (by omega) h)
  have hR := Lib.hid (Whole.new w 53 (avc zeroA))
  have hbel : Below w.heap.size w (w.alloc (.cells (avc zeroA) 53)) := (Below.refl _ _).alloc (Nat.le_refl _) _
  have hq : (str r).toList.isEmpty = false := by
    rw [ByteArray.toList_eq, str_toList]
    cases r with
    | nil => exact absurd rfl hr
    | cons x l => rfl
  clear h hr
  go_enter Try.func42, Try.ntmps42
  go_wp2_with fail
  refine (H.out _).mono ?_
  rintro e w1 ⟨a, c, rfl, _, g1⟩
  have hR1 := hR.out.keep g1
  obtain ⟨c0, c1, c2, c3, c4, c5, c6, c7, c8, c9, f0, f1, f2, f3, f4, f5, f6, f7, f8, f9⟩ := hR1.ten
  have hbel1 := hbel.trans (g1.mono hbel.size)
  clear g1 hbel hR hR1
  go_wp2_with fail
  refine bodyPost_ret ?_ rfl ⟨rfl, ?_⟩
  · simp [results, Try.results42, go_sem, c0, c1, c2, c3, c4, c5, c6, c7, c8, c9, zeroA]
  · exact below_setTen hbel1 (Nat.le_refl _) zeroA

set_option maxRecDepth 100000 in
set_option maxHeartbeats 4000000 in
theorem fdec_got (s : ByteArray) (b D : Ag) (E : Int) (w : World) (hs : s.size ≤ 140737488355328) (h : takeN 10 s.data.toList = some (numsA b, [])) (hDE : (May b ∧ D = b ∧ E = 0) ∨ (¬ May b ∧ D = zeroA ∧ E = 2)) :
    Calls Try.prog 42 #[.string s] w fun e w' => e = .returned (.tuple #[av D, .int .i64 E]) ∧ Below w.heap.size w w' := by
  have H := Lib.hid (fun w => take_all_at s 10 10 rfl (numsA b) [] w hs (by omega) h)
  have hb := nums_wf (takeN_of h).1
  have hR := Lib.hid (Whole.new w 53 (avc zeroA))
  have hbel : Below w.heap.size w (w.alloc (.cells (avc zeroA) 53)) := (Below.refl _ _).alloc (Nat.le_refl _) _
  have HC := Lib.hid (fun w => check15_walk b w hb)
  have hs0 : str [] = ⟨#[]⟩ := rfl
  rw [hs0] at H
  have HDE := Lib.hid hDE
  clear h hDE
  go_enter Try.func42, Try.ntmps42
  go_wp2_with fail
  refine (H.out _).mono ?_
  rintro e w1 ⟨a, c, rfl, hown, g1⟩
  have hR1 := hR.out.keep g1
  have HR1 := Lib.hid hR1
  have hbel1 := hbel.trans (g1.mono hbel.size)
  have hcell := hown
  have hl10 : (numsA b).length = 10 := rfl
  rw [hl10]
  rcases hown.2 with ⟨_, h0⟩ | ⟨g, cp, cur, he, hbg, hg, hnc, hcm, hcs, htake⟩
  · simp [numsA] at h0
  · injection he with e1 e2 e3
    subst e1 e3
    rw [hl10] at hnc
    have hk : ∀ (q : Nat) u, (i64s (numsA b))[q]? = some u → w1.cell? ⟨g, q, none⟩ = some u := fun q u hu => by
      have := hcell.cells (g := g) rfl q u hu
      rwa [add_at, Nat.zero_add] at this
    have k0 := hk 0 _ rfl
    have k1 := hk 1 _ rfl
    have k2 := hk 2 _ rfl
    have k3 := hk 3 _ rfl
    have k4 := hk 4 _ rfl
    have k5 := hk 5 _ rfl
    have k6 := hk 6 _ rfl
    have k7 := hk 7 _ rfl
    have k8 := hk 8 _ rfl
    have k9 := hk 9 _ rfl
    have hgl : g < w1.heap.size := (hcell.lt g rfl).2
    have hcp : (8 : Int) ≤ (c : Int) := by omega
    have hcp2 : ¬ ((c : Int) < 8) := by omega
    have hc4 : ¬ c = 4 := by omega
    have hat : ∀ w, (Instr.arrayAt 51 (.slice (some ⟨g, 4, none⟩) 4 (c - 4))).run Try.prog w = .ok (.pointer (some ⟨g, 4, none⟩)) w := fun w => by kernel_rfl
    clear hk hcell hown htake hcs hg hbg
    go_wp2_with fail
    obtain ⟨W, hWd⟩ : ∃ W, W = w1.alloc (.cells #[.int .i64 b.h0, .int .i64 b.h1, .int .i64 b.h2, .int .i64 b.h3] 51) := ⟨_, rfl⟩
    rw [← hWd]
    have B1 : Below w1.heap.size w1 W := by rw [hWd]; exact (Below.refl _ _).alloc (Nat.le_refl _) _
    have d0 : W.cell? ⟨w1.heap.size, 0, none⟩ = some (.int .i64 b.h0) := by rw [hWd, World.cell?_alloc_at _ _ _ _ rfl]; rfl
    have d1 : W.cell? ⟨w1.heap.size, 1, none⟩ = some (.int .i64 b.h1) := by rw [hWd, World.cell?_alloc_at _ _ _ _ rfl]; rfl
    have d2 : W.cell? ⟨w1.heap.size, 2, none⟩ = some (.int .i64 b.h2) := by rw [hWd, World.cell?_alloc_at _ _ _ _ rfl]; rfl
    have d3 : W.cell? ⟨w1.heap.size, 3, none⟩ = some (.int .i64 b.h3) := by rw [hWd, World.cell?_alloc_at _ _ _ _ rfl]; rfl
    have hwz : w1.heap.size < W.heap.size := by rw [hWd]; simp
    have hgW : g < W.heap.size := Nat.lt_trans hgl hwz
    clear hWd
    have HS := Lib.hid (show ∀ w', Below W.heap.size W w' → w'.cell? ⟨g, 0, none⟩ = some (.int .i64 b.count) ∧ w'.cell? ⟨g, 1, none⟩ = some (.int .i64 b.sum) ∧ w'.cell? ⟨g, 2, none⟩ = some (.int .i64 b.min) ∧ w'.cell? ⟨g, 3, none⟩ = some (.int .i64 b.max) ∧ w'.cell? ⟨g, 8, none⟩ = some (.int .i64 b.re) ∧ w'.cell? ⟨g, 9, none⟩ = some (.int .i64 b.im) ∧ w'.cell? ⟨w1.heap.size, 0, none⟩ = some (.int .i64 b.h0) ∧ w'.cell? ⟨w1.heap.size, 1, none⟩ = some (.int .i64 b.h1) ∧ w'.cell? ⟨w1.heap.size, 2, none⟩ = some (.int .i64 b.h2) ∧ w'.cell? ⟨w1.heap.size, 3, none⟩ = some (.int .i64 b.h3) ∧ g < w'.heap.size ∧ w1.heap.size < w'.heap.size ∧ Below W.heap.size W w' from fun w' h =>
      have e : ∀ i, w'.cell? ⟨g, i, none⟩ = w1.cell? ⟨g, i, none⟩ := fun i => (h.cell (p := ⟨g, i, none⟩) hgW).trans (B1.cell (p := ⟨g, i, none⟩) hgl)
      have f : ∀ i, w'.cell? ⟨w1.heap.size, i, none⟩ = W.cell? ⟨w1.heap.size, i, none⟩ := fun i => h.cell (p := ⟨w1.heap.size, i, none⟩) hwz
      ⟨(e 0).trans k0, (e 1).trans k1, (e 2).trans k2, (e 3).trans k3, (e 8).trans k8, (e 9).trans k9, (f 0).trans d0, (f 1).trans d1, (f 2).trans d2, (f 3).trans d3, Nat.lt_of_lt_of_le hgW h.size, Nat.lt_of_lt_of_le hwz h.size, h⟩)
    have s0 : Below W.heap.size W W.drew := (Below.refl _ _).drew
    have s1 : ∀ o, Below W.heap.size W (W.alloc o).drew := fun o => ((Below.refl _ _).alloc (Nat.le_refl _) o).drew
    have hS0 := HS.out _ s0
    have S1 := Lib.hid (fun o => HS.out _ (s1 o))
    have SB := Lib.hid s1
    have HB1 := Lib.hid B1
    clear k0 k1 k2 k3 k4 k5 k6 k7 k8 k9 d0 d1 d2 d3 s0 s1 B1
    go_region_held3 (fun w' => w'.cell? ⟨g, 0, none⟩ = some (.int .i64 b.count) ∧ w'.cell? ⟨g, 1, none⟩ = some (.int .i64 b.sum) ∧ w'.cell? ⟨g, 2, none⟩ = some (.int .i64 b.min) ∧ w'.cell? ⟨g, 3, none⟩ = some (.int .i64 b.max) ∧ w'.cell? ⟨g, 8, none⟩ = some (.int .i64 b.re) ∧ w'.cell? ⟨g, 9, none⟩ = some (.int .i64 b.im) ∧ w'.cell? ⟨w1.heap.size, 0, none⟩ = some (.int .i64 b.h0) ∧ w'.cell? ⟨w1.heap.size, 1, none⟩ = some (.int .i64 b.h1) ∧ w'.cell? ⟨w1.heap.size, 2, none⟩ = some (.int .i64 b.h2) ∧ w'.cell? ⟨w1.heap.size, 3, none⟩ = some (.int .i64 b.h3) ∧ g < w'.heap.size ∧ w1.heap.size < w'.heap.size ∧ Below W.heap.size W w')
      (first | with_reducible assumption | with_reducible exact S1.out _)
      (first | fail | fail)
    obtain ⟨V, hV⟩ : ∃ V, V = (W.alloc (.cells #[.int .i64 b.count, .int .i64 b.sum, .int .i64 b.min, .int .i64 b.max, .int .i64 b.h0, .int .i64 b.h1, .int .i64 b.h2, .int .i64 b.h3, .int .i64 b.re, .int .i64 b.im] 53)).drew := ⟨_, rfl⟩
    rw [← hV]
    have T : Whole V W.heap.size 53 (avc b) := by rw [hV]; exact Whole.new W 53 (avc b)
    have B2 : Below W.heap.size W V := by rw [hV]; exact SB.out _
    have B3 : Below w1.heap.size w1 V := HB1.out.trans (B2.mono HB1.out.size)
    have hTW := Nat.le_trans hbel1.size (Nat.le_of_lt hwz)
    clear hV hS0 S1 SB HS
    obtain ⟨c0, c1, c2, c3, c4, c5, c6, c7, c8, c9, _⟩ := T.ten
    go_wp2_with fail
    refine (HC.out _).mono ?_
    rintro e w3 ⟨rfl, g3⟩
    have T3 := T.keep g3
    have R3 := HR1.out.keep (B3.trans (g3.mono B3.size))
    have hb3 : Below w.heap.size w w3 := hbel1.trans ((B3.trans (g3.mono B3.size)).mono hbel1.size)
    clear c0 c1 c2 c3 c4 c5 c6 c7 c8 c9 T g3 B2 B3
    obtain ⟨c0, c1, c2, c3, c4, c5, c6, c7, c8, c9, _⟩ := T3.ten
    obtain ⟨x0, x1, x2, x3, x4, x5, x6, x7, x8, x9, f0, f1, f2, f3, f4, f5, f6, f7, f8, f9⟩ := R3.ten
    rcases HDE.out with ⟨hm, hD, hE⟩ | ⟨hm, hD, hE⟩
    · rw [codeA_yes hm]
      subst hD hE
      clear hm HDE
      go_wp2_with fail
      refine bodyPost_ret ?_ rfl ⟨rfl, ?_⟩
      · simp [results, Try.results42, go_sem, x0, x1, x2, x3, x4, x5, x6, x7, x8, x9]
      · exact below_setTen hb3 (Nat.le_refl _) D
    · rw [codeA_no hm]
      subst hD hE
      clear hm HDE
      go_wp2_with fail
      refine bodyPost_ret ?_ rfl ⟨rfl, ?_⟩
      · simp [results, Try.results42, go_sem, x0, x1, x2, x3, x4, x5, x6, x7, x8, x9, zeroA]
      · exact below_setTen hb3 (Nat.le_refl _) zeroA
end Go.Proofs.Ytnjojbanbcahnaa
