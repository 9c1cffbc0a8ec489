/- The walk of the statement BatchCut of layer 6. -/
import Derived.Test.YtdeenkpkcibebaaBatLawKit
namespace Go.Proofs.Ytdeenkpkcibebaa
open Go.RowKit Vm Bm
set_option linter.unusedVariables false

theorem batL_small {b : Bat} (h : MayB b) : (str (batL b)).size ≤ 40000 := by
  have h1 := putN_len _ h.heads
  have h2 := recsL_len h.2.2
  have h3 := h.1.2.2.2.2.2.2
  rw [str_size]; unfold batL; rw [List.length_append]
  simp only [headsL, List.length_cons, List.length_nil] at h1 ⊢
  omega
theorem batL_inj {a b : Bat} {x y : List UInt8} (ha : MayB a) (hb : MayB b) (h : batL a ++ x = batL b ++ y) : x = y := by
  have h1 := takeN_put (headsL a) ha.heads (recsL a.l ++ x)
  have h2 := takeN_put (headsL b) hb.heads (recsL b.l ++ y)
  unfold batL at h
  rw [List.append_assoc, List.append_assoc] at h
  rw [h] at h1
  have e : (headsL a).length = (headsL b).length := rfl
  rw [e, h2] at h1
  injection h1 with h1
  injection h1 with h3 h4
  simp only [headsL, List.cons.injEq, and_true] at h3
  have hn : a.l.length = b.l.length := by omega
  have h5 := takeRs_put a.l ha.2.2 x
  have h6 := takeRs_put b.l hb.2.2 y
  rw [hn, ← h4, h6] at h5
  injection h5 with h5
  injection h5 with _ h7
  exact h7.symm
theorem unbat_more {b : Bat} {m : List UInt8} (hb : MayB b) (hm : m ≠ []) : unbatL (batL b ++ m) = none := by
  cases h : unbatL (batL b ++ m) with
  | none => rfl
  | some d =>
    obtain ⟨hd, he⟩ := unbatL_some h
    exact absurd (batL_inj hb hd (y := []) (by rw [List.append_nil]; exact he)) hm
theorem unbat_cut {b : Bat} {n : Nat} (hb : MayB b) (hn : n < (batL b).length) : unbatL ((batL b).take n) = none := by
  cases h : unbatL ((batL b).take n) with
  | none => rfl
  | some d =>
    obtain ⟨hd, he⟩ := unbatL_some h
    have := batL_inj hb hd (x := []) (y := (batL b).drop n) (by rw [List.append_nil, ← he, List.take_append_drop])
    have := congrArg List.length this
    rw [List.length_nil, List.length_drop] at this
    omega

set_option maxRecDepth 100000 in
set_option maxHeartbeats 4000000 in
theorem batchCut_law (b : Bat) (a : Option Addr) (c : Nat) (cut : Int) (more : ByteArray) (w : World) (hw : BatWf b) (hl : Sl w w.heap.size a (recCells b.l)) (hc : (Lit.int .i64 cut).wf = true) (hs : more.size ≤ 140737488351232) :
    Calls Try.prog 7 #[bv b a c, .int .i64 cut, .string more] w fun e w' => e = .returned (.bool true) ∧ Below w.heap.size w w' := by
  have B0 := below_alloc w (.cells (bvc b a c) 24)
  have R0 := Whole.new w 24 (bvc b a c)
  have L0 := (hl.below B0 (Nat.le_refl _)).grow B0.size
  have HR0 := Lib.hid R0
  have HL0 := Lib.hid L0
  have hz0 : w.heap.size ≤ (w.alloc (.cells (bvc b a c) 24)).heap.size := B0.size
  obtain ⟨c0, c1, c2, c3, c4, hgl, _⟩ := fv_of R0
  by_cases hg : ¬ LightB b
  · have KL := Lib.hid (fun w hl hB => light_walk b b.l.length a c w.heap.size w false rfl ⟨fun h => (by cases h), fun h => absurd h hg⟩ hl hB)
    obtain ⟨k, p, e, q, l⟩ := b
    simp only [bv, bvc] at *
    go_enter Try.func7, Try.ntmps7
    go_wp2_with fail
    refine (KL.out _ L0 (Nat.le_refl _)).mono ?_
    rintro x w1 ⟨rfl, g1⟩
    have B1 := B0.trans (g1.mono B0.size)
    go_wp2_with fail
    refine (awake6_walk _).mono ?_
    rintro x wz ⟨rfl, gz⟩
    go_wp2_with fail
    go_ret
    exact ⟨rfl, B1.trans (gz.mono B1.size)⟩
  have hg := Classical.not_not.1 hg
  have KL := fun w hl hB => light_walk b b.l.length a c w.heap.size w true rfl ⟨fun _ => hg, fun _ => rfl⟩ hl hB
  by_cases hmo : 1000 < (more.size : Int)
  · obtain ⟨k, p, e, q, l⟩ := b
    simp only [bv, bvc] at *
    have KL := Lib.hid KL
    go_enter Try.func7, Try.ntmps7
    go_wp2_with fail
    refine (KL.out _ L0 (Nat.le_refl _)).mono ?_
    rintro x w1 ⟨rfl, g1⟩
    have B1 := B0.trans (g1.mono B0.size)
    go_wp2_with fail
    refine (awake6_walk _).mono ?_
    rintro x wz ⟨rfl, gz⟩
    go_wp2_with fail
    go_ret
    exact ⟨rfl, B1.trans (gz.mono B1.size)⟩
  by_cases hm : MayB b
  · have E1 := fun w hl hB => benc_yes b a c w.heap.size w hm hl hB
    have hsz := batL_size hm
    have hsz2 := batL_small hm
    have S1 := fun a1 a2 c1 c2 w => same_bat_walk zb 0 a1 a2 c1 c2 w.heap.size w rfl (by omega) (.inl rfl) (.inl rfl) (Nat.le_refl _)
    have hmore : more = ⟨#[]⟩ ∨ (more.toList.isEmpty = false ∧ ∀ w, Calls Try.prog 24 #[.string (str (batL b) ++ more)] w (DPost w zb 2)) := by
      by_cases h : more.data.toList = []
      · exact .inl (ByteArray.ext (Array.ext' h))
      · refine .inr ⟨?_, fun w => (bdec_walk _ w none ?_ (by rw [ByteArray.size_append]; omega)).mono fun e w' hp => bpost_of (D := zb) (E := 2) hp (.inl ⟨rfl, rfl, rfl⟩)⟩
        · rw [ByteArray.toList_eq]
          cases hh : more.data.toList with
          | nil => exact absurd hh h
          | cons y l => rfl
        · rw [str_append, unbat_more hm h]
    have hcut : cut < 0 ∨ (¬ cut < 0 ∧ ((str (batL b)).size : Int) ≤ cut) ∨ ∃ n : Nat, cut = (n : Int) ∧ ¬ (((str (batL b)).size : Int) ≤ (n : Int)) ∧ n ≤ (str (batL b)).size ∧ ∀ w, Calls Try.prog 24 #[.string ((str (batL b)).extract 0 n)] w (DPost w zb 2) := by
      by_cases h0 : cut < 0
      · exact .inl h0
      by_cases h1 : ((str (batL b)).size : Int) ≤ cut
      · exact .inr (.inl ⟨h0, h1⟩)
      obtain ⟨n, rfl⟩ := Int.eq_ofNat_of_zero_le (show 0 ≤ cut by omega)
      refine .inr (.inr ⟨n, rfl, h1, by omega, fun w => (bdec_walk _ w none ?_ ?_).mono fun e w' hp => bpost_of (D := zb) (E := 2) hp (.inl ⟨rfl, rfl, rfl⟩)⟩)
      · rw [← str_take, str_toList, str_toList, unbat_cut hm (by rw [str_size] at h1; omega)]
      · rw [← str_take, str_size, List.length_take]; omega
    have hcat : ¬ (9223372036854775807 < (str (batL b)).size + more.size) := by omega
    generalize str (batL b) = X at *
    unfold DPost at hmore hcut
    obtain ⟨k, p, e, q, l⟩ := b
    simp only [zb, List.length_nil] at S1 hmore hcut
    simp only [bv, bvc] at *
    have KL := Lib.hid KL
    have E1 := Lib.hid E1
    have S1 := Lib.hid S1
    clear hw hm hg hsz hs
    go_enter Try.func7, Try.ntmps7
    go_wp2_with fail
    refine (KL.out _ HL0.out (Nat.le_refl _)).mono ?_
    rintro x w1 ⟨rfl, g⟩
    have HR1 := Lib.hid (HR0.out.keep g)
    have B1 := B0.trans (g.mono B0.size)
    have HL1 := Lib.hid ((HL0.out.below g (Nat.le_refl _)).grow g.size)
    clear g c0 c1 c2 c3 c4 hgl
    obtain ⟨c0, c1, c2, c3, c4, hgl, _⟩ := fv_of (b := ⟨k, p, e, q, l⟩) HR1.out
    simp only at c0 c1 c2 c3 c4
    go_wp2_with fail
    refine (E1.out _ HL1.out (Nat.le_refl _)).mono ?_
    rintro x w2 ⟨rfl, g⟩
    have B2 := B1.trans (g.mono B1.size)
    clear g c0 c1 c2 c3 c4 hgl
    rcases hmore with rfl | ⟨hme, D1⟩
    ·
      rcases hcut with h0 | ⟨h0, h1⟩ | ⟨n, rfl, h1, h2, D2⟩
      · go_wp2_with fail
        refine (awake6_walk _).mono ?_
        rintro x wz ⟨rfl, gz⟩
        go_wp2_with fail
        go_ret
        exact ⟨rfl, B2.trans (gz.mono B2.size)⟩
      · go_wp2_with fail
        refine (awake6_walk _).mono ?_
        rintro x wz ⟨rfl, gz⟩
        go_wp2_with fail
        go_ret
        exact ⟨rfl, B2.trans (gz.mono B2.size)⟩
      · have D2 := Lib.hid D2
        have B9 := B2
        go_wp2_with fail
        refine (D2.out _).mono ?_
        rintro x v10 ⟨a10, cc10, rfl, _, g⟩
        have B10 := (B9.trans (g.mono B9.size)).trans ((below_alloc v10 (.cells (bvc zb a10 cc10) 24)).mono (B9.trans (g.mono B9.size)).size)
        obtain ⟨n0, n1, n2, n3, n4, hgn, _⟩ := fv_of (Whole.new v10 24 (bvc zb a10 cc10))
        simp only [bvc, zb, List.length_nil] at n0 n1 n2 n3 n4 hgn B10
        clear g
        go_wp2_with fail
        refine (S1.out _ _ _ _ _).mono ?_
        rintro x w10 ⟨rfl, g⟩
        have B10' := B10.trans (g.mono B10.size)
        clear g n0 n1 n2 n3 n4 hgn
        go_wp2_with fail
        refine (awake6_walk _).mono ?_
        rintro x wz ⟨rfl, gz⟩
        go_wp2_with fail
        go_ret
        exact ⟨rfl, B10'.trans (gz.mono B10'.size)⟩
    · have D1 := Lib.hid D1
      go_wp2_with fail
      refine (D1.out _).mono ?_
      rintro x v3 ⟨a3, cc3, rfl, _, g⟩
      have B3 := (B2.trans (g.mono B2.size)).trans ((below_alloc v3 (.cells (bvc zb a3 cc3) 24)).mono (B2.trans (g.mono B2.size)).size)
      obtain ⟨n0, n1, n2, n3, n4, hgn, _⟩ := fv_of (Whole.new v3 24 (bvc zb a3 cc3))
      simp only [bvc, zb, List.length_nil] at n0 n1 n2 n3 n4 hgn B3
      clear g
      go_wp2_with fail
      refine (S1.out _ _ _ _ _).mono ?_
      rintro x w3 ⟨rfl, g⟩
      have B3' := B3.trans (g.mono B3.size)
      clear g n0 n1 n2 n3 n4 hgn
      rcases hcut with h0 | ⟨h0, h1⟩ | ⟨n, rfl, h1, h2, D2⟩
      · go_wp2_with fail
        refine (awake6_walk _).mono ?_
        rintro x wz ⟨rfl, gz⟩
        go_wp2_with fail
        go_ret
        exact ⟨rfl, B3'.trans (gz.mono B3'.size)⟩
      · go_wp2_with fail
        refine (awake6_walk _).mono ?_
        rintro x wz ⟨rfl, gz⟩
        go_wp2_with fail
        go_ret
        exact ⟨rfl, B3'.trans (gz.mono B3'.size)⟩
      · have D2 := Lib.hid D2
        have B9 := B3'
        go_wp2_with fail
        refine (D2.out _).mono ?_
        rintro x v10 ⟨a10, cc10, rfl, _, g⟩
        have B10 := (B9.trans (g.mono B9.size)).trans ((below_alloc v10 (.cells (bvc zb a10 cc10) 24)).mono (B9.trans (g.mono B9.size)).size)
        obtain ⟨n0, n1, n2, n3, n4, hgn, _⟩ := fv_of (Whole.new v10 24 (bvc zb a10 cc10))
        simp only [bvc, zb, List.length_nil] at n0 n1 n2 n3 n4 hgn B10
        clear g
        go_wp2_with fail
        refine (S1.out _ _ _ _ _).mono ?_
        rintro x w10 ⟨rfl, g⟩
        have B10' := B10.trans (g.mono B10.size)
        clear g n0 n1 n2 n3 n4 hgn
        go_wp2_with fail
        refine (awake6_walk _).mono ?_
        rintro x wz ⟨rfl, gz⟩
        go_wp2_with fail
        go_ret
        exact ⟨rfl, B10'.trans (gz.mono B10'.size)⟩
  · have E1 := fun w hl hB => benc_no b a c w.heap.size w hm hl hB
    obtain ⟨k, p, e, q, l⟩ := b
    simp only [bv, bvc] at *
    have KL := Lib.hid KL
    have E1 := Lib.hid E1
    clear hw hm hg
    go_enter Try.func7, Try.ntmps7
    go_wp2_with fail
    refine (KL.out _ HL0.out (Nat.le_refl _)).mono ?_
    rintro x w1 ⟨rfl, g⟩
    have HR1 := Lib.hid (HR0.out.keep g)
    have B1 := B0.trans (g.mono B0.size)
    have HL1 := Lib.hid ((HL0.out.below g (Nat.le_refl _)).grow g.size)
    clear g c0 c1 c2 c3 c4 hgl
    obtain ⟨c0, c1, c2, c3, c4, hgl, _⟩ := fv_of (b := ⟨k, p, e, q, l⟩) HR1.out
    simp only at c0 c1 c2 c3 c4
    go_wp2_with fail
    refine (E1.out _ HL1.out (Nat.le_refl _)).mono ?_
    rintro x w2 ⟨rfl, g⟩
    have B2 := B1.trans (g.mono B1.size)
    go_wp2_with fail
    refine (awake6_walk _).mono ?_
    rintro x wz ⟨rfl, gz⟩
    go_wp2_with fail
    go_ret
    exact ⟨rfl, B2.trans (gz.mono B2.size)⟩
end Go.Proofs.Ytdeenkpkcibebaa
