/- The walks of Group.Beat and Group.May. -/
import Derived.Test.YtocmhmfaehnliaaGrSync
namespace Go.Proofs.Ytocmhmfaehnliaa
open Go.RowKit Vm
set_option linter.unusedVariables false
set_option linter.unusedSimpArgs false

theorem gbeat_nil (x y : Int) (w : World) : Calls Try.prog 26 #[.pointer none, .int .i64 x, .int .i64 y] w fun e w' => e = .returned (.int .i64 11) ∧ Below w.heap.size w w' := by
  have KM := Lib.hid (gmem_nil x w)
  go_enter Try.func26, Try.ntmps26
  go_wp2_with fail
  refine KM.out.mono ?_
  rintro e w1 ⟨rfl, b1⟩
  go_wp2_with fail
  go_ret
  exact ⟨rfl, b1⟩
theorem gmay_nil (x y z : Int) (w : World) : Calls Try.prog 21 #[.pointer none, .int .i64 x, .int .i64 y, .int .i64 z] w fun e w' => e = .returned (.int .i64 11) ∧ Below w.heap.size w w' := by
  have KM := Lib.hid (gmem_nil x w)
  go_enter Try.func21, Try.ntmps21
  go_wp2_with fail
  refine KM.out.mono ?_
  rintro e w1 ⟨rfl, b1⟩
  go_wp2_with fail
  go_ret
  exact ⟨rfl, b1⟩
set_option maxRecDepth 100000 in
set_option maxHeartbeats 4000000 in
theorem gbeat_walk (K : Nat) (x y : Int) (G : Gr) (g : Nat) (a : Option Addr) (c : Nat) (b : Option Addr) (d : Nat) (w : World) (hK : K ≤ 800) (hok : GOk G K) (h : GrW w g G a c b d) :
    Calls Try.prog 26 #[.pointer (some ⟨g, 0, none⟩), .int .i64 x, .int .i64 y] w (GrP g a b (beatG G x y) (.int .i64 (beatE G x y)) w) := by
  have hlN := hok.len
  have ht0 := hok.t0
  have ht1 := hok.t1
  have KM := Lib.hid (gmem_walk x G g a c b d w (by omega) h)
  unfold MemP at KM
  have HG := Lib.hid h
  unfold beatG beatE
  clear hok h
  by_cases hh : hasI G.L x = true
  · simp only [if_pos hh]
    by_cases hy : y = G.g
    · simp only [if_pos hy, if_true]
      go_enter Try.func26, Try.ntmps26
      go_wp2_with fail
      refine KM.out.mono ?_
      rintro e w1 ⟨⟨_, ga, rfl, rfl⟩ | ⟨hh2, rfl⟩, b1⟩
      rotate_left
      · exfalso; rw [hh] at hh2; cases hh2
      have H1 := HG.out.keep b1
      have hj := (idx_lt hh).1
      have M1 := Mvs.below (SF g (some ⟨ga, 0, none⟩) b) b1
      obtain ⟨H2, M2, s2, z2⟩ := gr_hear H1 hj
      obtain ⟨m0, m1, m2, m3, m4, m5, hfz⟩ := H1.six
      have M3 := Lib.hid (M1.trans M2)
      have H3 := Lib.hid H2
      have hwt : IntKind.i64.wrap (G.t + 12) = G.t + 12 := IntWalk.i64_in _ (by omega)
      obtain ⟨v2, hv2⟩ := Option.isSome_iff_exists.1 s2
      have hq : (y != G.g) = false := by simp [hy]
      generalize idxI G.L x = j at *
      generalize G.g = gg at *
      clear KM m0 m2 m4 m5 hfz M1 M2 s2 H1 H2 hy hh
      go_wp2_with fail
      go_ret
      exact ⟨rfl, _, _, _, _, H3.out, M3.out⟩
    · simp only [if_neg hy]
      have hq : (y != G.g) = true := by simpa using hy
      go_enter Try.func26, Try.ntmps26
      go_wp2_with fail
      refine KM.out.mono ?_
      rintro e w1 ⟨⟨_, ga, rfl, rfl⟩ | ⟨hh2, rfl⟩, b1⟩
      rotate_left
      · exfalso; rw [hh] at hh2; cases hh2
      have H1 := HG.out.keep b1
      obtain ⟨m0, m1, m2, m3, m4, m5, hfz⟩ := H1.six
      have HF := Lib.hid (GrP.same (.int .i64 12) HG.out b1)
      generalize idxI G.L x = j at *
      clear KM m0 m2 m3 m4 m5 hfz H1 hy hh
      go_wp2_with fail
      go_ret
      exact ⟨rfl, by have := HF.out.2; simpa using this⟩
  · simp only [if_neg hh]
    go_enter Try.func26, Try.ntmps26
    go_wp2_with fail
    refine KM.out.mono ?_
    rintro e w1 ⟨⟨hh2, ga, rfl, rfl⟩ | ⟨_, rfl⟩, b1⟩
    · exact absurd hh2 hh
    have HF := Lib.hid (GrP.same (.int .i64 11) HG.out b1)
    clear KM
    go_wp2_with fail
    go_ret
    exact ⟨rfl, by have := HF.out.2; simpa using this⟩
set_option maxRecDepth 100000 in
set_option maxHeartbeats 4000000 in
theorem gmay_walk (K : Nat) (x y z : Int) (G : Gr) (g : Nat) (a : Option Addr) (c : Nat) (b : Option Addr) (d : Nat) (w : World) (hK : K ≤ 800) (hok : GOk G K) (h : GrW w g G a c b d) :
    Calls Try.prog 21 #[.pointer (some ⟨g, 0, none⟩), .int .i64 x, .int .i64 y, .int .i64 z] w fun e w' => e = .returned (.int .i64 (mayE G x y z)) ∧ Below w.heap.size w w' := by
  have hlN := hok.len
  have ho1 := hok.o1
  have KM := Lib.hid (gmem_walk x G g a c b d w (by omega) h)
  unfold MemP at KM
  have HG := Lib.hid h
  unfold mayE
  clear hok h
  by_cases hh : hasI G.L x = true
  · simp only [if_pos hh]
    by_cases hy : y = G.g
    · have hq : (y != G.g) = false := by simp [hy]
      simp only [if_pos hy]
      obtain ⟨P, hP⟩ : ∃ P, G.O.length = P := ⟨_, rfl⟩
      have HP := Lib.hid hP
      rw [hP] at ho1 ⊢
      rcases (show z < 0 ∨ (0 ≤ z ∧ (P : Int) ≤ z) ∨ (0 ≤ z ∧ ¬ (P : Int) ≤ z) by omega) with h1 | ⟨h1, h2⟩ | ⟨h1, h2⟩
      · rw [if_neg (by omega)]
        go_enter Try.func21, Try.ntmps21
        go_wp2_with fail
        refine KM.out.mono ?_
        rintro e w1 ⟨⟨_, ga, rfl, rfl⟩ | ⟨hh2, rfl⟩, b1⟩
        rotate_left
        · exfalso; rw [hh] at hh2; cases hh2
        obtain ⟨m0, m1, m2, m3, m4, m5, hfz⟩ := (HG.out.keep b1).six
        generalize idxI G.L x = j at *
        clear KM m0 m2 m3 m4 m5 hfz hy hh
        go_wp2_with fail
        go_ret
        exact ⟨rfl, b1⟩
      · rw [if_neg (by omega)]
        have h3 : ¬ z < 0 := by omega
        go_enter Try.func21, Try.ntmps21
        go_wp2_with fail
        refine KM.out.mono ?_
        rintro e w1 ⟨⟨_, ga, rfl, rfl⟩ | ⟨hh2, rfl⟩, b1⟩
        rotate_left
        · exfalso; rw [hh] at hh2; cases hh2
        obtain ⟨m0, m1, m2, m3, m4, m5, hfz⟩ := (HG.out.keep b1).six
        rw [HP.out] at m5
        generalize idxI G.L x = j at *
        clear KM m0 m2 m3 m4 hfz hy hh
        go_wp2_with fail
        go_ret
        exact ⟨rfl, b1⟩
      · obtain ⟨q, rfl⟩ : ∃ q : Nat, z = (q : Int) := ⟨z.toNat, by omega⟩
        have hqP : q < P := by omega
        have h4 : (q : Int) < (P : Int) := by omega
        have h3 : ¬ (q : Int) < 0 := by omega
        rw [show ((q : Int)).toNat = q from by simp]
        have HO := Lib.hid (HG.out.rowO)
        by_cases hv : G.O.getD q 0 = x
        · rw [if_pos ⟨h1, h4, hv⟩]
          have HV := Lib.hid hv
          go_enter Try.func21, Try.ntmps21
          go_wp2_with fail
          refine KM.out.mono ?_
          rintro e w1 ⟨⟨_, ga, rfl, rfl⟩ | ⟨hh2, rfl⟩, b1⟩
          rotate_left
          · exfalso; rw [hh] at hh2; cases hh2
          obtain ⟨m0, m1, m2, m3, m4, m5, hfz⟩ := (HG.out.keep b1).six
          have hrow := (HG.out.keep b1).rowO
          rw [HP.out] at m5 hrow
          obtain ⟨gb, rfl, _, hgl2, _, hcc⟩ := ownN_at hrow (by omega)
          have r0 := hcc _ _ (i64s_get G.O q (by rw [HP.out]; exact hqP))
          rw [HV.out] at r0
          have hne : (x != x) = false := by simp
          generalize idxI G.L x = j at *
          clear KM m0 m2 m3 m4 hfz hy hh hcc hrow hv
          go_wp2_with fail
          go_ret
          exact ⟨rfl, b1⟩
        · rw [if_neg (fun hc => hv hc.2.2)]
          obtain ⟨v, hve⟩ : ∃ v, G.O.getD q 0 = v := ⟨_, rfl⟩
          rw [hve] at hv
          have HV := Lib.hid hve
          go_enter Try.func21, Try.ntmps21
          go_wp2_with fail
          refine KM.out.mono ?_
          rintro e w1 ⟨⟨_, ga, rfl, rfl⟩ | ⟨hh2, rfl⟩, b1⟩
          rotate_left
          · exfalso; rw [hh] at hh2; cases hh2
          obtain ⟨m0, m1, m2, m3, m4, m5, hfz⟩ := (HG.out.keep b1).six
          have hrow := (HG.out.keep b1).rowO
          rw [HP.out] at m5 hrow
          obtain ⟨gb, rfl, _, hgl2, _, hcc⟩ := ownN_at hrow (by omega)
          have r0 := hcc _ _ (i64s_get G.O q (by rw [HP.out]; exact hqP))
          rw [HV.out] at r0
          have hne : (v != x) = true := by simpa using hv
          generalize idxI G.L x = j at *
          clear KM m0 m2 m3 m4 hfz hy hh hcc hrow hve hv
          go_wp2_with fail
          go_ret
          exact ⟨rfl, b1⟩
    · simp only [if_neg hy]
      have hq : (y != G.g) = true := by simpa using hy
      go_enter Try.func21, Try.ntmps21
      go_wp2_with fail
      refine KM.out.mono ?_
      rintro e w1 ⟨⟨_, ga, rfl, rfl⟩ | ⟨hh2, rfl⟩, b1⟩
      rotate_left
      · exfalso; rw [hh] at hh2; cases hh2
      obtain ⟨m0, m1, m2, m3, m4, m5, hfz⟩ := (HG.out.keep b1).six
      generalize idxI G.L x = j at *
      clear KM m0 m2 m3 m4 m5 hfz hy hh
      go_wp2_with fail
      go_ret
      exact ⟨rfl, b1⟩
  · simp only [if_neg hh]
    go_enter Try.func21, Try.ntmps21
    go_wp2_with fail
    refine KM.out.mono ?_
    rintro e w1 ⟨⟨hh2, ga, rfl, rfl⟩ | ⟨_, rfl⟩, b1⟩
    · exact absurd hh2 hh
    clear KM
    go_wp2_with fail
    go_ret
    exact ⟨rfl, b1⟩
end Go.Proofs.Ytocmhmfaehnliaa
