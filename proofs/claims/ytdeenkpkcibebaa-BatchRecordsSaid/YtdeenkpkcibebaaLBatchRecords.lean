/- The walk of the statement BatchRecords of layer 6. -/
import Derived.Test.YtdeenkpkcibebaaBatLawKit
namespace Go.Proofs.Ytdeenkpkcibebaa
open Go.RowKit Vm Bm
set_option linter.unusedVariables false

theorem takeR_not {r : Rec} (hi : RecI r) (hm : ¬ MayR r) (rest : List UInt8) : takeR (recL r ++ rest) = none := by
  obtain ⟨i1, i2, i3⟩ := hi
  obtain ⟨k, t, x⟩ := r
  simp only at i1 i2 i3
  unfold takeR recL
  simp only [List.append_assoc]
  rw [takeL_put i1]
  simp only
  rw [takeL_put i2]
  simp only
  rw [takeL_put ⟨by omega, by omega⟩]
  simp only
  split
  · rfl
  · rw [if_neg]
    simpa using hm
abbrev Nine (w1 w2 : World) (g0 g1 g2 : Nat) (k t dk dt : Int) (x dx : ByteArray) : Prop := w2.cell? ⟨g0, 0, none⟩ = some (.int .i64 k) ∧ w2.cell? ⟨g0, 1, none⟩ = some (.int .i64 t) ∧ w2.cell? ⟨g0, 2, none⟩ = some (.string x) ∧ w2.cell? ⟨g1, 0, none⟩ = some (.int .i64 dk) ∧ w2.cell? ⟨g1, 1, none⟩ = some (.int .i64 dt) ∧ w2.cell? ⟨g1, 2, none⟩ = some (.string dx) ∧ w2.cell? ⟨g2, 0, none⟩ = some (.int .i64 dk) ∧ w2.cell? ⟨g2, 1, none⟩ = some (.int .i64 dt) ∧ w2.cell? ⟨g2, 2, none⟩ = some (.string dx) ∧ g0 < w2.heap.size ∧ g1 < w2.heap.size ∧ g2 < w2.heap.size ∧ Below w1.heap.size w1 w2
theorem nine_keep {w1 w2 w3 : World} {g0 g1 g2 : Nat} {k t dk dt : Int} {x dx : ByteArray} (h : Nine w1 w2 g0 g1 g2 k t dk dt x dx) (hb : Below w2.heap.size w2 w3) : Nine w1 w3 g0 g1 g2 k t dk dt x dx := by
  obtain ⟨a0, a1, a2, b0, b1, b2, c0, c1, c2, z0, z1, z2, z3⟩ := h
  have e0 : ∀ i, w3.cell? ⟨g0, i, none⟩ = w2.cell? ⟨g0, i, none⟩ := fun i => hb.cell (p := ⟨g0, i, none⟩) z0
  have e1 : ∀ i, w3.cell? ⟨g1, i, none⟩ = w2.cell? ⟨g1, i, none⟩ := fun i => hb.cell (p := ⟨g1, i, none⟩) z1
  have e2 : ∀ i, w3.cell? ⟨g2, i, none⟩ = w2.cell? ⟨g2, i, none⟩ := fun i => hb.cell (p := ⟨g2, i, none⟩) z2
  exact ⟨by rw [e0]; exact a0, by rw [e0]; exact a1, by rw [e0]; exact a2, by rw [e1]; exact b0, by rw [e1]; exact b1, by rw [e1]; exact b2, by rw [e2]; exact c0, by rw [e2]; exact c1, by rw [e2]; exact c2, Nat.lt_of_lt_of_le z0 hb.size, Nat.lt_of_lt_of_le z1 hb.size, Nat.lt_of_lt_of_le z2 hb.size, z3.trans (hb.mono z3.size)⟩

set_option maxRecDepth 100000 in
set_option maxHeartbeats 4000000 in
theorem batchRecords_law (k t : Int) (x s : ByteArray) (w : World) (hk : (Lit.int .i64 k).wf = true) (ht : (Lit.int .i64 t).wf = true) (hx : x.size ≤ maxLen) (hs : s.size ≤ 140737488351232) :
    Calls Try.prog 8 #[.agg #[.int .i64 k, .int .i64 t, .string x], .string s] w fun e w' => e = .returned (.bool true) ∧ Below w.heap.size w w' := by
  have B0 := below_alloc w (.cells #[.int .i64 k, .int .i64 t, .string x] 43)
  have X0 := Lib.hid (Box3.start w (.int .i64 k) (.int .i64 t) (.string x) 43)
  have hs0 : str [] = ⟨#[]⟩ := rfl
  by_cases hz1 : 2000 < (x.size : Int)
  · go_enter Try.func8, Try.ntmps8
    go_wp2_with fail
    refine (awake6_walk _).mono ?_
    rintro x wz ⟨rfl, gz⟩
    go_wp2_with fail
    go_ret
    exact ⟨rfl, B0.trans (gz.mono B0.size)⟩
  by_cases hz2 : 5000 < (s.size : Int)
  · go_enter Try.func8, Try.ntmps8
    go_wp2_with fail
    refine (awake6_walk _).mono ?_
    rintro x wz ⟨rfl, gz⟩
    go_wp2_with fail
    go_ret
    exact ⟨rfl, B0.trans (gz.mono B0.size)⟩
  have hlen : x.data.toList.length ≤ 140737488351232 := by rw [toList_length]; omega
  have ik := wf_i64 hk
  have it := wf_i64 ht
  have P1 := fun W => put_rec_walk ⟨k, t, x.data.toList⟩ W ik it hlen
  have P2 := fun W => ref_rec_walk ⟨k, t, x.data.toList⟩ W ik it hlen
  have hri : RecI ⟨k, t, x.data.toList⟩ := ⟨ik, it, by simp only; omega⟩
  have hrl := recL_len hri
  have T1 := fun W => take_rec_walk s W (by omega)
  have T2 := fun W => ref_take_rec_walk s W (by omega)
  obtain ⟨X, hX⟩ : ∃ X, X = str (recL ⟨k, t, x.data.toList⟩) := ⟨_, rfl⟩
  have hXs : X.size ≤ 3000 := by rw [hX, str_size]; simp only at hrl; rw [toList_length] at hrl; omega
  have T3 := fun W => take_rec_walk (X ++ s) W (by rw [ByteArray.size_append]; omega)
  have hcat : ¬ (9223372036854775807 < X.size + s.size) := by omega
  have hL : (X ++ s).data.toList = recL ⟨k, t, x.data.toList⟩ ++ s.data.toList := by rw [hX, str_append]
  have hR : ∃ d : Bool, (d = true ↔ MayR ⟨k, t, x.data.toList⟩) ∧ ((d = true ∧ recA (X ++ s).data.toList = (⟨k, t, x.data.toList⟩, s.data.toList, 0)) ∨ (d = false ∧ recA (X ++ s).data.toList = (zr, [], 2))) := by
    rw [hL]
    by_cases hm : MayR ⟨k, t, x.data.toList⟩
    · exact ⟨true, ⟨fun _ => hm, fun _ => rfl⟩, .inl ⟨rfl, recA_some (takeR_put hm _)⟩⟩
    · exact ⟨false, ⟨fun h => (by cases h), fun h => absurd h hm⟩, .inr ⟨rfl, recA_none (takeR_not hri hm _)⟩⟩
  obtain ⟨d, hd, hR⟩ := hR
  have M1 := fun W => mayrec_walk ⟨k, t, x.data.toList⟩ d W hd
  rw [← hX] at P1 P2
  generalize recA s.data.toList = A1 at *
  generalize recA (X ++ s).data.toList = A2 at *
  obtain ⟨⟨dk, dt, dx0⟩, dR, dE⟩ := A1
  obtain ⟨⟨rk, rt, rx⟩, rR, rE⟩ := A2
  simp only [rv, str_data] at P1 P2 T1 T2 T3 M1
  generalize str dx0 = dx at *
  generalize str dR = R at *
  have P1 := Lib.hid P1
  have P2 := Lib.hid P2
  have T1 := Lib.hid T1
  have T2 := Lib.hid T2
  have T3 := Lib.hid T3
  have M1 := Lib.hid M1
  have q1 := bytes_eq X
  have q2 := bytes_eq dx
  have q3 := bytes_eq R
  have q4 := bytes_eq x
  have q5 := bytes_eq s
  have q6 := bytes_eq ⟨#[]⟩
  clear hk ht hx hs hlen ik it hri hrl hX hXs hL hd
  obtain ⟨c0, c1, c2, _, _, _, hgl⟩ := X0.out
  go_enter Try.func8, Try.ntmps8
  go_wp2_with fail
  refine (T1.out _).mono ?_
  rintro e w1 ⟨rfl, g⟩
  have hal := below_alloc w1 (.cells #[.int .i64 dk, .int .i64 dt, .string dx] 43)
  have B1 := (B0.trans (g.mono B0.size)).trans (hal.mono (B0.trans (g.mono B0.size)).size)
  have X1 := Lib.hid ((X0.out.keep g).keep hal)
  have Y1 := Lib.hid (Box3.start w1 (.int .i64 dk) (.int .i64 dt) (.string dx) 43)
  clear g hal c0 c1 c2 hgl
  go_wp2_with fail
  refine (T2.out _).mono ?_
  rintro e w2 ⟨rfl, g⟩
  have hal := below_alloc w2 (.cells #[.int .i64 dk, .int .i64 dt, .string dx] 43)
  have B2 := (B1.trans (g.mono B1.size)).trans (hal.mono (B1.trans (g.mono B1.size)).size)
  have X2 := Lib.hid ((X1.out.keep g).keep hal)
  have Y2 := Lib.hid ((Y1.out.keep g).keep hal)
  have Z2 := Lib.hid (Box3.start w2 (.int .i64 dk) (.int .i64 dt) (.string dx) 43)
  clear g hal
  obtain ⟨V, hV⟩ : ∃ V, V = w2.alloc (.cells #[.int .i64 dk, .int .i64 dt, .string dx] 43) := ⟨_, rfl⟩
  rw [← hV] at X2 Y2 Z2 B2
  have hS0 : Nine V V.drew w.heap.size w1.heap.size w2.heap.size k t dk dt x dx := by
    obtain ⟨a0, a1, a2, _, _, _, la⟩ := X2.out
    obtain ⟨b0, b1, b2, _, _, _, lb⟩ := Y2.out
    obtain ⟨z0, z1, z2, _, _, _, lz⟩ := Z2.out
    exact ⟨a0, a1, a2, b0, b1, b2, z0, z1, z2, la, lb, lz, (Below.refl _ _).drew⟩
  unfold Nine at hS0
  go_wp2_with fail
  rw [← hV]
  clear hV
  go_region_held3 (fun w' => w'.cell? ⟨w.heap.size, 0, none⟩ = some (.int .i64 k) ∧ w'.cell? ⟨w.heap.size, 1, none⟩ = some (.int .i64 t) ∧ w'.cell? ⟨w.heap.size, 2, none⟩ = some (.string x) ∧ w'.cell? ⟨w1.heap.size, 0, none⟩ = some (.int .i64 dk) ∧ w'.cell? ⟨w1.heap.size, 1, none⟩ = some (.int .i64 dt) ∧ w'.cell? ⟨w1.heap.size, 2, none⟩ = some (.string dx) ∧ w'.cell? ⟨w2.heap.size, 0, none⟩ = some (.int .i64 dk) ∧ w'.cell? ⟨w2.heap.size, 1, none⟩ = some (.int .i64 dt) ∧ w'.cell? ⟨w2.heap.size, 2, none⟩ = some (.string dx) ∧ w.heap.size < w'.heap.size ∧ w1.heap.size < w'.heap.size ∧ w2.heap.size < w'.heap.size ∧ Below V.heap.size V w')
    (with_reducible assumption)
    (first
      | (go_at_call 29; refine (P1.out _).mono ?_; rintro e w3 ⟨rfl, h3⟩; have y : Nine V w3 w.heap.size w1.heap.size w2.heap.size k t dk dt x dx := nine_keep (by with_reducible assumption) h3; unfold Nine at y)
      | (go_at_call 30; refine (P2.out _).mono ?_; rintro e w4 ⟨rfl, h4⟩; have y : Nine V w4 w.heap.size w1.heap.size w2.heap.size k t dk dt x dx := nine_keep (by with_reducible assumption) h4; unfold Nine at y))
  all_goals
    obtain ⟨wv, rfl⟩ : ∃ wv : World, wv = w4 := ⟨_, rfl⟩
    have X4 := Lib.hid (X2.out.keep y.2.2.2.2.2.2.2.2.2.2.2.2)
    have B4 := B2.trans (y.2.2.2.2.2.2.2.2.2.2.2.2.mono B2.size)
    clear hS0 y h3 h4
    obtain ⟨c0, c1, c2, _, _, _, hgl⟩ := X4.out
    go_wp2_with fail
    refine (P1.out _).mono ?_
    rintro e w5 ⟨rfl, g⟩
    have X5 := Lib.hid (X4.out.keep g)
    have B5 := B4.trans (g.mono B4.size)
    clear g c0 c1 c2 hgl
    go_wp2_with fail
    refine (T3.out _).mono ?_
    rintro e w6 ⟨rfl, g⟩
    have hal := below_alloc w6 (.cells #[.int .i64 rk, .int .i64 rt, .string (str rx)] 43)
    have B6 := (B5.trans (g.mono B5.size)).trans (hal.mono (B5.trans (g.mono B5.size)).size)
    have X6 := Lib.hid ((X5.out.keep g).keep hal)
    have Y6 := Lib.hid (Box3.start w6 (.int .i64 rk) (.int .i64 rt) (.string (str rx)) 43)
    clear g hal
    obtain ⟨c0, c1, c2, _, _, _, hgl⟩ := X6.out
    go_wp2_with fail
    refine (M1.out _).mono ?_
    rintro e w7 ⟨rfl, g⟩
    have B7 := B6.trans (g.mono B6.size)
    have X7 := Lib.hid (X6.out.keep g)
    have Y7 := Lib.hid (Y6.out.keep g)
    clear g c0 c1 c2 hgl
    obtain ⟨c0, c1, c2, _, _, _, hgl⟩ := X7.out
    obtain ⟨n0, n1, n2, _, _, _, hgn⟩ := Y7.out
    rcases hR with ⟨rfl, hr⟩ | ⟨rfl, hr⟩
    · simp only [Prod.mk.injEq, Rec.mk.injEq] at hr
      obtain ⟨⟨rfl, rfl, rfl⟩, rfl, rfl⟩ := hr
      rw [str_data] at n2
      rw [str_data]
      go_wp2_with fail
      refine (awake6_walk _).mono ?_
      rintro x wz ⟨rfl, gz⟩
      go_wp2_with fail
      go_ret
      exact ⟨rfl, B7.trans (gz.mono B7.size)⟩
    · simp only [zr, Prod.mk.injEq, Rec.mk.injEq] at hr
      obtain ⟨⟨rfl, rfl, rfl⟩, rfl, rfl⟩ := hr
      rw [hs0] at n2
      rw [hs0]
      go_wp2_with fail
      refine (awake6_walk _).mono ?_
      rintro x wz ⟨rfl, gz⟩
      go_wp2_with fail
      go_ret
      exact ⟨rfl, B7.trans (gz.mono B7.size)⟩
end Go.Proofs.Ytdeenkpkcibebaa
