/- The walks of coop's getters, Rests, surplus, Revoke, Done. -/
import Derived.Test.YtafibgekikjlhaaCoBeg
import Derived.Test.YtafibgekikjlhaaCoNewR
namespace Go.Proofs.Ytafibgekikjlhaa
open Go.RowKit Vm As
set_option linter.unusedVariables false
set_option linter.unusedSimpArgs false

/-- What a call leaves of a coop. -/
def CoP (g : Nat) (a b d : Option Addr) (C' : Co) (E : Value) (w : World) (e : Ending) (w' : World) : Prop := e = .returned E ∧ ∃ a' ca' b' cb' d' cd', CoW w' g C' a' ca' b' cb' d' cd' ∧ Mvs w w' (CF g a b d) (CF g a' b' d')
theorem CoP.same {w w' : World} {g : Nat} {C : Co} {a : Option Addr} {ca : Nat} {b : Option Addr} {cb : Nat} {d : Option Addr} {cd : Nat} (E : Value) (h : CoW w g C a ca b cb d cd) (hb : Below w.heap.size w w') : CoP g a b d C E w (.returned E) w' :=
  ⟨rfl, a, ca, b, cb, d, cd, h.keep hb, Mvs.below _ hb⟩
def CIs (L : List Int) (w : World) (e : Ending) (w' : World) : Prop := ∃ a' c', e = .returned (.slice a' L.length c') ∧ w'.ownsRow w.heap.size 3 1 (.slice a' L.length c') L.length (i64s L) ∧ Below w.heap.size w w'
theorem cgen_walk (C : Co) (g : Nat) (a : Option Addr) (ca : Nat) (b : Option Addr) (cb : Nat) (d : Option Addr) (cd : Nat) (w : World) (h : CoW w g C a ca b cb d cd) : Calls Try.prog 27 #[.pointer (some ⟨g, 0, none⟩)] w fun e w' => e = .returned (.int .i64 C.g) ∧ w' = w := by
  obtain ⟨m0, m1, m2, m3, hfz⟩ := h.four
  clear h hfz
  go_enter Try.func27, Try.ntmps27
  go_wp2_with fail
  go_ret
  exact ⟨rfl, rfl⟩
theorem chave_walk (C : Co) (g : Nat) (a : Option Addr) (ca : Nat) (b : Option Addr) (cb : Nat) (d : Option Addr) (cd : Nat) (w : World) (hNm : C.H.length ≤ 1000) (h : CoW w g C a ca b cb d cd) : Calls Try.prog 29 #[.pointer (some ⟨g, 0, none⟩)] w (CIs C.H w) := by
  have hK := Lib.hid (clone_c C.H C.H.length b cb w rfl (by omega) (ownN_sl h.rowH))
  obtain ⟨m0, m1, m2, m3, hfz⟩ := h.four
  clear h hfz m0 m1 m3
  go_enter Try.func29, Try.ntmps29
  go_wp2_with fail
  refine hK.out.mono ?_
  rintro e w1 ⟨a1, c1, rfl, own1, b1⟩
  go_wp2_with fail
  go_ret
  exact ⟨a1, c1, rfl, own1, b1⟩
theorem cwant_walk (C : Co) (g : Nat) (a : Option Addr) (ca : Nat) (b : Option Addr) (cb : Nat) (d : Option Addr) (cd : Nat) (w : World) (hNm : C.W.length ≤ 1000) (h : CoW w g C a ca b cb d cd) : Calls Try.prog 30 #[.pointer (some ⟨g, 0, none⟩)] w (CIs C.W w) := by
  have hK := Lib.hid (clone_c C.W C.W.length d cd w rfl (by omega) (ownN_sl h.rowW))
  obtain ⟨m0, m1, m2, m3, hfz⟩ := h.four
  clear h hfz m0 m1 m2
  go_enter Try.func30, Try.ntmps30
  go_wp2_with fail
  refine hK.out.mono ?_
  rintro e w1 ⟨a1, c1, rfl, own1, b1⟩
  go_wp2_with fail
  go_ret
  exact ⟨a1, c1, rfl, own1, b1⟩
theorem cmembers_walk (C : Co) (g : Nat) (a : Option Addr) (ca : Nat) (b : Option Addr) (cb : Nat) (d : Option Addr) (cd : Nat) (w : World) (hNm : C.M.length ≤ 1000) (h : CoW w g C a ca b cb d cd) : Calls Try.prog 28 #[.pointer (some ⟨g, 0, none⟩)] w (CIs C.M w) := by
  have hK := Lib.hid (clone_c C.M C.M.length a ca w rfl (by omega) (ownN_sl h.rowM))
  obtain ⟨m0, m1, m2, m3, hfz⟩ := h.four
  clear h hfz m0 m2 m3
  go_enter Try.func28, Try.ntmps28
  go_wp2_with fail
  refine hK.out.mono ?_
  rintro e w1 ⟨a1, c1, rfl, own1, b1⟩
  go_wp2_with fail
  go_ret
  exact ⟨a1, c1, rfl, own1, b1⟩
def Agree (A B : List Int) (k : Nat) : Prop := ∀ p, p < k → A.getD p 0 = B.getD p 0
set_option maxRecDepth 100000 in
set_option maxHeartbeats 4000000 in
theorem equal_walk (A B : List Int) (N M : Nat) (a b : Option Addr) (c d : Nat) (w : World) (q : Bool) (hN : A.length = N) (hM : B.length = M) (hNm : N ≤ 1000) (hMm : M ≤ 1000) (hq : decide (A = B) = q) (ha : Sl w w.heap.size a (i64s A)) (hb : Sl w w.heap.size b (i64s B)) :
    Calls Try.prog 51 #[.slice a N c, .slice b M d] w fun e w' => e = .returned (.bool q) ∧ ∃ n, w' = w.drewN n := by
  have HA := Lib.hid ha
  have HB := Lib.hid hb
  have HN := Lib.hid hN
  have HM := Lib.hid hM
  have HQ := Lib.hid hq
  clear ha hb hN hM hq
  by_cases hNM : N = M
  · subst hNM
    have g0 : ((N : Int) != (N : Int)) = false := by simp
    go_enter Try.func51, Try.ntmps51
    go_wp2_with fail
    go_loopw [13] (fun I wr => ∃ k : Nat, k ≤ N ∧ I = .int .i64 k ∧ Hid (Agree A B k) ∧ ∃ n, wr = w.drewN n) (fun I _ => N - (intOf I).toNat)
    case atStart => exact ⟨0, by omega, rfl, Lib.hid (fun p hp => by omega), 0, rfl⟩
    case round =>
      obtain ⟨k, hk, rfl, HL, n0, hwr⟩ := hrel
      have hSA : Sl wr wr.heap.size a (i64s A) := by rw [hwr]; exact HA.out.below (below_drewN _ _ _) (Nat.le_refl _)
      have hSB : Sl wr wr.heap.size b (i64s B) := by rw [hwr]; exact HB.out.below (below_drewN _ _ _) (Nat.le_refl _)
      have hDN := Lib.hid (fun m => (show ∃ n, wr.drewN m = w.drewN n from by rw [hwr]; exact (Drew.of w n0).trans (Drew.of _ m)))
      have hDN0 := Lib.hid (show ∃ n, wr = w.drewN n from ⟨n0, hwr⟩)
      clear hwr
      by_cases hlt : k < N
      · have hlt2 : (k : Int) < (N : Int) := by omega
        have hk0 : 0 ≤ (k : Int) := by omega
        obtain ⟨b1, o1, rfl, hb1, hc1⟩ := hSA.ints (by rw [HN.out]; omega)
        obtain ⟨b2, o2, rfl, hb2, hc2⟩ := hSB.ints (by rw [HM.out]; omega)
        have r0 := hc1 k (by rw [HN.out]; exact hlt)
        have r1 := hc2 k (by rw [HM.out]; exact hlt)
        obtain ⟨x, hx⟩ : ∃ x, A.getD k 0 = x := ⟨_, rfl⟩
        obtain ⟨y, hy⟩ : ∃ y, B.getD k 0 = y := ⟨_, rfl⟩
        rw [hx] at r0
        rw [hy] at r1
        have HX := Lib.hid hx
        have HY := Lib.hid hy
        clear hx hy hc1 hc2 hSA hSB
        by_cases he : x = y
        · subst he
          have g1 : (x != x) = false := by simp
          have HL2 := Lib.hid (show Agree A B (k + 1) from fun p hp => by
            rcases Nat.lt_or_ge p k with h1 | h1
            · exact HL.out p h1
            · rw [show p = k from by omega, HX.out, HY.out])
          go_wp2_with fail
          go_quiet (fail)
          go_wp2_with fail
          go_roundw
          case rel => exact ⟨k + 1, by omega, by go_num, HL2, hDN.out _⟩
          case measure => simp [intOf]; omega
        · have g1 : (x != y) = true := by simpa using he
          have HF := Lib.hid (show q = false from by
            rw [← HQ.out, decide_eq_false_iff_not]
            intro e
            rw [e, HY.out] at HX
            exact he HX.out.symm)
          clear he
          go_wp2_with fail
          go_quiet (fail)
          go_wp2_with fail
          go_ret
          exact ⟨by rw [HF.out]; rfl, hDN.out _⟩
      · obtain rfl : k = N := by omega
        have HF := Lib.hid (show q = true from by
          rw [← HQ.out, decide_eq_true_iff]
          exact ext_getD (by rw [HN.out, HM.out]) (fun p hp => HL.out p (by rw [HN.out] at hp; exact hp)))
        clear hSA hSB
        go_wp2_with fail
        go_ret
        exact ⟨by rw [HF.out]; rfl, hDN0.out⟩
  · have g0 : ((N : Int) != (M : Int)) = true := by simp; omega
    have HF := Lib.hid (show q = false from by
      rw [← HQ.out, decide_eq_false_iff_not]
      intro e
      rw [e, HM.out] at HN
      exact hNM HN.out.symm)
    clear hNM
    go_enter Try.func51, Try.ntmps51
    go_wp2_with fail
    go_ret
    exact ⟨by rw [HF.out]; rfl, 0, rfl⟩
set_option maxRecDepth 100000 in
theorem crests_walk (C : Co) (g : Nat) (a : Option Addr) (ca : Nat) (b : Option Addr) (cb : Nat) (d : Option Addr) (cd : Nat) (w : World) (hH : C.H.length ≤ 1000) (hW : C.W.length ≤ 1000) (h : CoW w g C a ca b cb d cd) :
    Calls Try.prog 31 #[.pointer (some ⟨g, 0, none⟩)] w fun e w' => e = .returned (.bool (decide (C.H = C.W))) ∧ Below w.heap.size w w' := by
  have KE := Lib.hid (fun n => equal_walk C.H C.W C.H.length C.W.length b d cb cd (w.drewN n) _ rfl rfl hH hW rfl ((ownN_sl h.rowH).below (below_drewN _ _ _) (Nat.le_refl _)) ((ownN_sl h.rowW).below (below_drewN _ _ _) (Nat.le_refl _)))
  obtain ⟨m0, m1, m2, m3, hfz⟩ := h.four
  have hgl := h.lt
  clear h hfz m0 m1
  generalize decide (C.H = C.W) = q at *
  generalize C.H.length = P at *
  generalize C.W.length = R at *
  have HB := Lib.hid (fun n => below_drewN w.heap.size w n)
  go_enter Try.func31, Try.ntmps31
  go_wp2_with fail
  go_quiet ((go_at_call 51; exact quiet_of_drew (KE.out _)))
  go_wp2_with fail
  go_ret
  exact ⟨by first | rfl | trivial, HB.out _⟩
set_option maxRecDepth 100000 in
theorem surplus_walk (m : Int) (p : Nat) (C : Co) (g : Nat) (a : Option Addr) (ca : Nat) (b : Option Addr) (cb : Nat) (d : Option Addr) (cd : Nat) (w : World) (hp : p < C.H.length) (hW : C.W.length = C.H.length) (h : CoW w g C a ca b cb d cd) :
    Calls Try.prog 47 #[.pointer (some ⟨g, 0, none⟩), .int .i64 m, .int .i64 p] w fun e w' => e = .returned (.bool (surp C m p)) ∧ w' = w := by
  obtain ⟨m0, m1, m2, m3, hfz⟩ := h.four
  obtain ⟨gb, rfl, _, hgl, hfb, hcc⟩ := ownN_at h.rowH (by omega)
  obtain ⟨gd, rfl, _, hgd, _, hcd⟩ := ownN_at h.rowW (by omega)
  have r0 := hcc p _ (i64s_get C.H p hp)
  have s0 := hcd p _ (i64s_get C.W p (by omega))
  rw [hW] at m3
  have hglt := h.lt
  have hp2 : (p : Int) < (C.H.length : Int) := by omega
  have hp0 : 0 ≤ (p : Int) := by omega
  unfold surp
  clear h hfz hfb hcc hcd m0 m1 hp hW
  generalize C.H.getD p 0 = x at *
  generalize C.W.getD p 0 = y at *
  generalize C.H.length = P at *
  by_cases h1 : x = m
  · have g1 : (x == m) = true := by simpa using h1
    clear h1
    rw [g1]
    generalize hq : (y != m) = q
    go_enter Try.func47, Try.ntmps47
    go_wp2_with fail
    go_ret
    exact ⟨by first | rfl | (rw [hq]; rfl) | (rw [← hq]; rfl) | simp [hq], rfl⟩
  · have g1 : (x == m) = false := by simpa using h1
    clear h1
    rw [g1]
    go_enter Try.func47, Try.ntmps47
    go_wp2_with fail
    go_ret
    exact ⟨by first | rfl | simp, rfl⟩
def RevPost (L : List Int) (E : Int) (w : World) (e : Ending) (w' : World) : Prop := ∃ a' c', e = .returned (.tuple #[.slice a' L.length c', .int .i64 E]) ∧ w'.ownsRow w.heap.size 3 1 (.slice a' L.length c') L.length (i64s L) ∧ Below w.heap.size w w'
set_option maxRecDepth 100000 in
set_option maxHeartbeats 4000000 in
theorem crevoke_walk (m : Int) (C : Co) (g : Nat) (a : Option Addr) (ca : Nat) (b : Option Addr) (cb : Nat) (d : Option Addr) (cd : Nat) (w : World) (hM : C.M.length ≤ 1000) (hH : C.H.length ≤ 1000) (hW : C.W.length = C.H.length) (h : CoW w g C a ca b cb d cd) :
    Calls Try.prog 23 #[.pointer (some ⟨g, 0, none⟩), .int .i64 m] w (RevPost (revL C m) (revE C m) w) := by
  obtain ⟨i0, hi, hz0, hz1, hz2⟩ := info_parts info_i64
  have KI := Lib.hid (is_walk m C g a ca b cb d cd w hM h)
  have HC := Lib.hid h
  have HW := Lib.hid hW
  obtain ⟨m0, m1, m2, m3, hfz⟩ := h.four
  have hglt := h.lt
  unfold revL revE
  clear h hfz m0 m1 m3 hW
  cases hh : C.M.contains m with
  | false =>
    rw [hh] at KI
    clear hh
    rw [if_neg (by decide), if_neg (by decide)]
    go_enter Try.func23, Try.ntmps23
    go_wp2_with fail
    refine KI.out.mono ?_
    rintro e w1 ⟨rfl, hw⟩
    subst hw
    go_wp2_with fail
    go_ret2
    exact ⟨none, 0, rfl, World.ownsRow_nil _ _ _ _, Below.refl _ _⟩
  | true =>
    rw [hh] at KI
    clear hh
    rw [if_pos rfl, if_pos rfl]
    obtain ⟨P, hP⟩ : ∃ P, C.H.length = P := ⟨_, rfl⟩
    have HP := Lib.hid hP
    rw [hP] at m2 hH
    rw [hP]
    clear hP
    go_enter Try.func23, Try.ntmps23
    go_wp2_with fail
    refine KI.out.mono ?_
    rintro e w1 ⟨rfl, hw⟩
    subst hw
    clear KI
    go_wp2_with fail
    go_loopw [6, 17] (fun R I wr => ∃ k : Nat, k ≤ P ∧ I = .int .i64 k ∧ wr.ownsRow w1.heap.size 3 1 R (revTo C m k).length (i64s (revTo C m k)) ∧ Below w1.heap.size w1 wr) (fun _ I _ => P - (intOf I).toNat)
    case atStart => exact ⟨0, by omega, rfl, by simpa [i64s, revTo] using World.ownsRow_nil _ _ _ _, Below.refl _ _⟩
    case round =>
      obtain ⟨k, hk, rfl, hown, hb⟩ := hrel
      by_cases hlt : k < P
      · have hlt2 : (k : Int) < (P : Int) := by omega
        have hk0 : 0 ≤ (k : Int) := by omega
        have KS := Lib.hid (surplus_walk m k C g a ca b cb d cd wr (by rw [HP.out]; exact hlt) HW.out (HC.out.keep hb))
        have hEq : revTo C m (k + 1) = revTo C m k ++ (if surp C m k = true then [(k : Int)] else []) := rfl
        have hll := revTo_len C m k
        cases hs : surp C m k with
        | true =>
          rw [hs] at KS hEq
          rw [if_pos rfl] at hEq
          have HE := Lib.hid hEq
          clear hs hEq
          obtain ⟨T, hT⟩ : ∃ T, revTo C m k = T := ⟨_, rfl⟩
          rw [hT] at hown HE hll
          have HT := Lib.hid hT
          clear hT
          go_wp2_with fail
          refine KS.out.mono ?_
          rintro e w2 ⟨rfl, hw⟩
          subst hw
          clear KS
          go_wp2_with (at_builtin; refine wpList_append_own _ rfl _ _ 22 rfl w1.heap.size 3 i0 (.int .i64 0) 1 8 Try.underlying22 hi hz0 hz1 hz2 rfl (by decide) _ _ _ rfl (hown.alloc _) ⟨w2.heap.size, 0, none⟩ 1 1 [.int .i64 k] rfl rfl ?c1 ?c2 ?c3 ?c4 ?c5 ?_)
          case c1 =>
            intro q u hj
            match q, hj with
            | 0, hj => simp at hj; subst hj; simp [Addr.add]
          case c2 => intro u hu; simp at hu; subst hu; rfl
          case c3 => unfold maxLen; omega
          case c4 => omega
          case c5 => exact Nat.le_trans hb.size (by simp)
          intro v' w3 hown' hgrow _
          have hb3 := (hb.alloc hb.size _).grown hgrow (by have := hb.size; simp; omega) (fun k hk => (hown.lt k hk).1)
          have hown3 : w3.ownsRow w1.heap.size 3 1 v' (revTo C m (k + 1)).length (i64s (revTo C m (k + 1))) := by
            rw [HE.out, i64s_snoc]; simpa using hown'
          clear hown' hgrow hown hb
          go_wp2_with fail
          go_roundw
          case rel => exact ⟨k + 1, by omega, by go_num, hown3, hb3⟩
          case measure => simp [intOf]; omega
        | false =>
          rw [hs] at KS hEq
          rw [if_neg (by decide), List.append_nil] at hEq
          have HE := Lib.hid hEq
          clear hs hEq
          go_wp2_with fail
          refine KS.out.mono ?_
          rintro e w2 ⟨rfl, hw⟩
          subst hw
          clear KS
          go_wp2_with fail
          go_roundw
          case rel => exact ⟨k + 1, by omega, by go_num, by rw [HE.out]; exact hown, hb⟩
          case measure => simp [intOf]; omega
      · obtain rfl : k = P := by omega
        obtain ⟨a6, c6, rfl⟩ := ownN_shape hown
        have HO := Lib.hid hown
        clear hown
        go_wp2_with fail
        go_ret2
        exact ⟨a6, c6, rfl, HO.out, hb⟩
set_option maxRecDepth 100000 in
set_option maxHeartbeats 4000000 in
theorem cdone_walk (m p : Int) (C : Co) (g : Nat) (a : Option Addr) (ca : Nat) (b : Option Addr) (cb : Nat) (d : Option Addr) (cd : Nat) (w : World) (hM : C.M.length ≤ 1000) (hH : C.H.length ≤ 1000) (hW : C.W.length = C.H.length) (h : CoW w g C a ca b cb d cd) :
    Calls Try.prog 25 #[.pointer (some ⟨g, 0, none⟩), .int .i64 m, .int .i64 p] w (CoP g a b d (doneC C m p) (.int .i64 (doneE C m p)) w) := by
  have KI := Lib.hid (is_walk m C g a ca b cb d cd w hM h)
  obtain ⟨m0, m1, m2, m3, hfz⟩ := h.four
  have hglt := h.lt
  have HSame := Lib.hid (fun E => CoP.same (w' := w) E h (Below.refl _ _))
  unfold doneC doneE
  cases hh : C.M.contains m with
  | false =>
    rw [hh] at KI
    clear h hfz m0 m1 m2 m3 hh
    rw [if_neg (show ¬ false = true by decide), if_neg (by decide)]
    go_enter Try.func25, Try.ntmps25
    go_wp2_with fail
    refine KI.out.mono ?_
    rintro e w1 ⟨rfl, hw⟩
    subst hw
    go_wp2_with fail
    go_ret
    exact HSame.out _
  | true =>
    rw [hh] at KI
    clear hh
    rw [if_pos (show true = true from rfl)]
    by_cases hp : 0 ≤ p ∧ p < (C.H.length : Int)
    · rw [if_pos hp]
      obtain ⟨q, rfl⟩ : ∃ q : Nat, p = (q : Int) := ⟨p.toNat, by omega⟩
      have hq : q < C.H.length := by omega
      rw [Int.toNat_natCast]
      have KS := Lib.hid (surplus_walk m q C g a ca b cb d cd w hq hW h)
      have g1 : ¬ (q : Int) < 0 := by omega
      have g2 : ¬ (C.H.length : Int) ≤ (q : Int) := by omega
      have g3 : decide ((C.H.length : Int) ≤ (q : Int)) = false := decide_eq_false g2
      cases hs : surp C m q with
      | false =>
        rw [hs] at KS
        rw [if_neg (show ¬ false = true by decide), if_neg (by decide)]
        clear h hfz hs m0 m1 m3 hp hq
        generalize C.H.length = P at *
        go_enter Try.func25, Try.ntmps25
        go_wp2_with fail
        refine KI.out.mono ?_
        rintro e w1 ⟨rfl, hw⟩
        subst hw
        clear KI
        go_wp2_with fail
        refine KS.out.mono ?_
        rintro e w2 ⟨rfl, hw⟩
        subst hw
        go_wp2_with fail
        go_ret
        exact HSame.out _
      | true =>
        rw [hs] at KS
        rw [if_pos (show true = true from rfl), if_pos rfl]
        have g4 : (q : Int) < (C.H.length : Int) := by omega
        have g5 : 0 ≤ (q : Int) := by omega
        obtain ⟨gb, rfl, _, hgl, hfb, hcc⟩ := ownN_at h.rowH (by omega)
        have r0 := hcc q _ (i64s_get C.H q hq)
        have f0 := hfb q
        have hset := h.setH q 0 hq
        have KG := Lib.hid (fun hg => give_walk q { C with H := C.H.set q 0 } g a ca (some ⟨gb, 0, none⟩) cb d cd (w.setCell ⟨gb, q, none⟩ (.int .i64 0)) (by simpa using hq) (by simpa using hW) hg)
        have KG2 := Lib.hid (KG.out hset)
        have e1 : giveA (C.H.set q 0) C.W q = C.W.getD q 0 := by
          unfold giveA
          rw [if_pos]
          rw [getD_set]; simp [hq]
        simp only [e1] at KG2
        rw [List.set_set] at KG2
        have M1 := Lib.hid ((Mvs.refl w (CF g a (some ⟨gb, 0, none⟩) d)).setG (.inr (.inr (.inl ⟨_, rfl, rfl⟩))) q (.int .i64 0))
        clear KG hset e1 h hfz hs m0 m1 m3 hp hq hfb hcc HSame
        generalize C.H.length = P at *
        go_enter Try.func25, Try.ntmps25
        go_wp2_with fail
        refine KI.out.mono ?_
        rintro e w1 ⟨rfl, hw⟩
        subst hw
        clear KI
        go_wp2_with fail
        refine KS.out.mono ?_
        rintro e w2 ⟨rfl, hw⟩
        subst hw
        clear KS
        go_wp2_with fail
        refine KG2.out.mono ?_
        rintro e w3 ⟨rfl, H3, M3⟩
        go_wp2_with fail
        go_ret
        exact ⟨rfl, _, _, _, _, _, _, H3, M1.out.trans M3⟩
    · rw [if_neg hp, if_neg (by decide)]
      have hpp : p < 0 ∨ (¬ p < 0 ∧ (C.H.length : Int) ≤ p) := by omega
      clear h hfz m0 m1 m3 hp
      generalize C.H.length = P at *
      rcases hpp with g1 | ⟨g1, g2⟩
      · go_enter Try.func25, Try.ntmps25
        go_wp2_with fail
        refine KI.out.mono ?_
        rintro e w1 ⟨rfl, hw⟩
        subst hw
        clear KI
        go_wp2_with fail
        go_ret
        exact HSame.out _
      · have g3 : decide ((P : Int) ≤ p) = true := decide_eq_true g2
        go_enter Try.func25, Try.ntmps25
        go_wp2_with fail
        refine KI.out.mono ?_
        rintro e w1 ⟨rfl, hw⟩
        subst hw
        clear KI
        go_wp2_with fail
        go_ret
        exact HSame.out _
end Go.Proofs.Ytafibgekikjlhaa
