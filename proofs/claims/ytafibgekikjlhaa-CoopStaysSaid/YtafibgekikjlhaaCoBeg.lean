/- The walks of coop.give and coop.begin. -/
import Derived.Test.YtafibgekikjlhaaCoOk
import Derived.Test.YtafibgekikjlhaaCoIs
import Derived.Test.YtafibgekikjlhaaCoGiveR
import Derived.Deep.RegionWith
import Derived.Deep.CutRange
namespace Go.Proofs.Ytafibgekikjlhaa
open Go.RowKit Vm As
set_option linter.unusedVariables false
set_option linter.unusedSimpArgs false

theorem Mvs.setG {w w' : World} {g : Nat} {S S' : Nat → Prop} (h : Mvs w w' S S') (hS : S g) (j : Nat) (u : Value) : Mvs w (w'.setCell ⟨g, j, none⟩ u) S S' :=
  ⟨h.1.setCell (p := ⟨g, j, none⟩) (Nat.zero_le _) u, fun k hk hn => (Below.heap_setCell w' ⟨g, j, none⟩ u k (show k ≠ g from fun e => hn (e ▸ hS))).trans (h.2.1 k hk hn), h.2.2⟩
def giveA (H W : List Int) (p : Nat) : Int := if H.getD p 0 = 0 then W.getD p 0 else H.getD p 0
def giveTo (H W : List Int) : Nat → List Int
  | 0 => H
  | k + 1 => (giveTo H W k).set k (giveA H W k)
theorem giveTo_len (H W : List Int) : ∀ k, (giveTo H W k).length = H.length
  | 0 => rfl
  | k + 1 => by unfold giveTo; rw [List.length_set, giveTo_len H W k]
theorem getD_set (l : List Int) (i j : Nat) (v : Int) : (l.set i v).getD j 0 = if i = j ∧ j < l.length then v else l.getD j 0 := by
  simp only [List.getD_eq_getElem?_getD, List.getElem?_set]
  by_cases h : i = j
  · subst h
    by_cases h2 : i < l.length
    · simp [h2]
    · simp [h2]
  · simp [h]
theorem giveTo_at (H W : List Int) : ∀ k p, (giveTo H W k).getD p 0 = if p < k ∧ p < H.length then giveA H W p else H.getD p 0
  | 0, p => by simp [giveTo]
  | k + 1, p => by
    unfold giveTo
    rw [getD_set, giveTo_at H W k p, giveTo_len]
    by_cases h1 : k = p
    · subst h1
      by_cases h2 : k < H.length
      · simp [h2]
      · simp [h2]
    · by_cases h2 : p < k
      · simp [h1, h2, show p < k + 1 by omega]
      · simp [h1, h2, show ¬ p < k + 1 by omega]
theorem giveTo_next (H W : List Int) (k : Nat) : (giveTo H W k).getD k 0 = H.getD k 0 := by rw [giveTo_at]; simp
theorem giveTo_keep {H W : List Int} {k : Nat} (hk : k < H.length) (h : ¬ H.getD k 0 = 0) : giveTo H W (k + 1) = giveTo H W k := by
  have e : giveA H W k = (giveTo H W k).getD k 0 := by unfold giveA; rw [if_neg h, giveTo_next]
  show (giveTo H W k).set k (giveA H W k) = _
  rw [e]
  have hl : k < (giveTo H W k).length := by rw [giveTo_len]; exact hk
  rw [show (giveTo H W k).getD k 0 = (giveTo H W k)[k] from by simp [List.getD, hl], List.set_getElem_self]
theorem giveTo_set {H W : List Int} {k : Nat} (h : H.getD k 0 = 0) : (giveTo H W k).set k (W.getD k 0) = giveTo H W (k + 1) := by
  show _ = (giveTo H W k).set k (giveA H W k)
  unfold giveA; rw [if_pos h]
theorem ext_getD {a b : List Int} (hl : a.length = b.length) (h : ∀ p, p < a.length → a.getD p 0 = b.getD p 0) : a = b := by
  apply List.ext_getElem hl
  intro i h1 h2
  have := h i h1
  rwa [show a.getD i 0 = a[i] from by simp [List.getD, h1], show b.getD i 0 = b[i] from by simp [List.getD, h2]] at this
theorem giveTo_full {H W : List Int} {k : Nat} (hW : W.length = H.length) (hk : H.length = k) : giveTo H W k = giveL H W := by
  apply ext_getD
  · rw [giveTo_len, giveL_len _ _ hW.symm]
  · intro p hp
    rw [giveTo_len] at hp
    rw [giveTo_at, giveL_at hp (by omega), if_pos ⟨by omega, hp⟩]
    rfl
theorem clone_c (l : List Int) (N : Nat) (a : Option Addr) (c : Nat) (w : World) (hN : l.length = N) (hNm : N ≤ 1000) (h : Sl w w.heap.size a (i64s l)) :
    Calls Try.prog 50 #[.slice a N c] w fun e w' => ∃ a1 c1, e = .returned (.slice a1 N c1) ∧ w'.ownsRow w.heap.size 3 1 (.slice a1 N c1) N (i64s l) ∧ Below w.heap.size w w' := by
  rcases Nat.eq_zero_or_pos N with h0 | h0
  · have hl : l = [] := List.eq_nil_of_length_eq_zero (by omega)
    subst hl
    subst h0
    cases a with
    | none => exact (Try.slices_Clone_int_nil 0 c w).mono fun e w' ⟨he, hw⟩ => by subst hw; exact ⟨none, 0, he, World.ownsRow_nil _ _ _ _, Below.refl _ _⟩
    | some x =>
      refine (Try.slices_Clone_int_zero x c w).mono ?_
      rintro e w' ⟨v', he, ho, _, hb⟩
      obtain ⟨a2, c2, rfl⟩ := ownN_shape ho
      exact ⟨a2, c2, he, ho, hb⟩
  · obtain ⟨b, off, rfl, hb, hc⟩ := h.ints (by omega)
    refine (Try.slices_Clone_int b off N c l w (by omega) (by omega) hc).mono ?_
    rintro e w' ⟨v', he, ho, _, hb⟩
    obtain ⟨a2, c2, rfl⟩ := ownN_shape ho
    rw [List.take_of_length_le (by omega)] at ho
    exact ⟨a2, c2, he, ho, hb⟩
def GivePost (g : Nat) (C' : Co) (a : Option Addr) (ca : Nat) (b : Option Addr) (cb : Nat) (d : Option Addr) (cd : Nat) (w : World) (e : Ending) (w' : World) : Prop := e = .returned (.tuple #[]) ∧ CoW w' g C' a ca b cb d cd ∧ Mvs w w' (CF g a b d) (CF g a b d)
theorem give_walk (p : Nat) (C : Co) (g : Nat) (a : Option Addr) (ca : Nat) (b : Option Addr) (cb : Nat) (d : Option Addr) (cd : Nat) (w : World) (hp : p < C.H.length) (hW : C.W.length = C.H.length) (h : CoW w g C a ca b cb d cd) :
    Calls Try.prog 48 #[.pointer (some ⟨g, 0, none⟩), .int .i64 p] w (GivePost g { C with H := C.H.set p (giveA C.H C.W p) } a ca b cb d cd w) := by
  obtain ⟨m0, m1, m2, m3, hfz⟩ := h.four
  obtain ⟨gb, rfl, _, hgl, hfb, hcc⟩ := ownN_at h.rowH (by omega)
  obtain ⟨gd, rfl, _, hgd, _, hcd⟩ := ownN_at h.rowW (by omega)
  have r0 := hcc p _ (i64s_get C.H p hp)
  have s0 := hcd p _ (i64s_get C.W p (by omega))
  rw [hW] at m3
  by_cases hv : C.H.getD p 0 = 0
  · rw [hv] at r0
    refine (give_raw p C.H.length g gb gd cb cd (C.W.getD p 0) w hp m2 m3 r0 (hfb p) s0).mono ?_
    rintro e w' ⟨rfl, rfl⟩
    have hd : CoW w.drew g C a ca (some ⟨gb, 0, none⟩) cb (some ⟨gd, 0, none⟩) cd := h.keep (below_drewN _ w 1)
    rw [show giveA C.H C.W p = C.W.getD p 0 from by unfold giveA; rw [if_pos hv]]
    exact ⟨rfl, hd.setH p _ hp, Mvs.setG (Mvs.below _ (below_drewN _ w 1)) (.inr (.inr (.inl ⟨_, rfl, rfl⟩))) p _⟩
  · refine (give_raw2 p C.H.length g gb cb (C.H.getD p 0) w hp m2 hv r0).mono ?_
    rintro e w' ⟨rfl, rfl⟩
    have e1 : C.H.set p (giveA C.H C.W p) = C.H := by
      unfold giveA
      rw [if_neg hv, show C.H.getD p 0 = C.H[p] from by simp [List.getD, hp], List.set_getElem_self]
    rw [e1]
    exact ⟨rfl, h, Mvs.refl _ _⟩
def CBegPost (g : Nat) (a b d : Option Addr) (ca cb : Nat) (C' : Co) (w : World) (e : Ending) (w' : World) : Prop := e = .returned (.tuple #[]) ∧ ∃ d' cd', CoW w' g C' a ca b cb d' cd' ∧ Mvs w w' (CF g a b d) (CF g a b d')
def atTo (C : Co) (D : List Int) (k : Nat) : Co := { C with g := C.g + 1, W := D, H := giveTo C.H D k }
set_option maxRecDepth 100000 in
set_option maxHeartbeats 8000000 in
theorem cbeg_walk (K : Nat) (C : Co) (g : Nat) (a : Option Addr) (ca : Nat) (b : Option Addr) (cb : Nat) (d : Option Addr) (cd : Nat) (w : World) (hK : K ≤ 900) (hok : BOk C K) (h : CoW w g C a ca b cb d cd) :
    Calls Try.prog 42 #[.pointer (some ⟨g, 0, none⟩)] w (CBegPost g a b d ca cb (begC C) w) := by
  have hml := hok.ml
  have ho0 := hok.h0
  have ho1 := hok.h1
  have hg0 := hok.g0
  have hg1 := hok.g1
  have HW := Lib.hid hok.wl
  have WM := Lib.hid hok.wfM
  have WO := Lib.hid hok.wfO
  have hgl := h.lt
  have hww : IntKind.i64.wrap (C.g + 1) = C.g + 1 := IntWalk.i64_in _ (by omega)
  have HWF := Lib.hid (wantF_len ho0 (by omega))
  obtain ⟨m0, m1, m2, m3, hfz⟩ := h.four
  have f0 := hfz 0
  have H1 := Lib.hid (h.setG (C.g + 1))
  have M1 := Lib.hid ((Mvs.refl w (CF g a b d)).setG (.inl rfl) 0 (.int .i64 (C.g + 1)))
  clear hfz h hok
  go_enter Try.func42, Try.ntmps42
  go_upto_region 1 with fail
  obtain ⟨w1, hw1⟩ : ∃ w1, w1 = w.setCell ⟨g, 0, none⟩ (.int .i64 (C.g + 1)) := ⟨_, rfl⟩
  rw [← hw1] at M1 H1 ⊢
  clear hw1 m0 m1 m2 m3 f0 hww
  obtain ⟨P, hP⟩ : ∃ P, C.H.length = P := ⟨_, rfl⟩
  have HP := Lib.hid hP
  rw [hP] at ho0 ho1
  have k2 := H1.out.four.2.2.1
  simp only at k2
  rw [hP] at k2
  have hgl1 := H1.out.lt
  have KC := Lib.hid (clone_c C.H P b cb w1 hP (by omega) (by have := ownN_sl H1.out.rowH; exact this))
  clear hP
  go_wp2_with fail
  refine KC.out.mono ?_
  rintro e w2 ⟨a2, c2, rfl, own2, b2⟩
  obtain ⟨go, rfl, hgo, hgol, _, _⟩ := ownN_at own2 (by omega)
  clear KC k2
  go_wp2_with fail
  go_loopw [19] (fun I wr => ∃ k : Nat, k ≤ P ∧ I = .int .i64 k ∧ wr.ownsRow w1.heap.size 3 1 (.slice (some ⟨go, 0, none⟩) P c2) P (i64s (giveTo C.H C.W k)) ∧ Below w1.heap.size w1 wr) (fun I _ => P - (intOf I).toNat)
  case atStart => exact ⟨0, by omega, rfl, own2, b2⟩
  case round =>
    obtain ⟨k, hk, rfl, hown, hb⟩ := hrel
    have HG2 := H1.out.keep hb
    by_cases hlt : k < P
    · have hil : k < C.H.length := by rw [HP.out]; exact hlt
      have hlt2 : (k : Int) < (P : Int) := by omega
      have hk0 : 0 ≤ (k : Int) := by omega
      obtain ⟨go', e, hgb', hgl', hfo, hcc⟩ := ownN_at hown (by omega)
      injection e with e
      injection e with e1 _ _
      subst e1
      have r0 := hcc k _ (i64s_get (giveTo C.H C.W k) k (by rw [giveTo_len]; exact hil))
      rw [giveTo_next] at r0
      have f0 := hfo k
      obtain ⟨v, hv⟩ : ∃ v, C.H.getD k 0 = v := ⟨_, rfl⟩
      rw [hv] at r0
      clear hcc hfo
      by_cases he : v = 0
      · subst he
        have HV := Lib.hid hv
        have m3 := HG2.four.2.2.2.1
        have hrow := HG2.rowW
        simp only at m3 hrow
        rw [HW.out, HP.out] at m3 hrow
        obtain ⟨gd, rfl, _, hgd, _, hcd⟩ := ownN_at hrow (by omega)
        have s0 := hcd k _ (i64s_get C.W k (by rw [HW.out]; exact hil))
        have HX := Lib.hid (giveTo_set (W := C.W) hv)
        obtain ⟨x, hx⟩ : ∃ x, C.W.getD k 0 = x := ⟨_, rfl⟩
        rw [hx] at s0 HX
        have own5 := ownN_store (u := .int .i64 x) hown (j := k) (by rw [i64s_len, giveTo_len]; exact hil)
        rw [← i64s_set, HX.out] at own5
        have b5 := hb.setCell (p := ⟨go, k, none⟩) hgb' (.int .i64 x)
        have hglr := HG2.lt
        clear hv hx hcd hrow hown
        go_wp2_with fail
        go_roundw
        case rel => exact ⟨k + 1, by omega, by go_num, own5, b5⟩
        case measure => simp [intOf]; omega
      · have hbv : (v == 0) = false := by simpa using he
        have own5 := hown
        rw [← giveTo_keep (W := C.W) hil (by rw [hv]; exact he)] at own5
        clear hv he
        go_wp2_with fail
        go_roundw
        case rel => exact ⟨k + 1, by omega, by go_num, own5, hb⟩
        case measure => simp [intOf]; omega
    · obtain rfl : k = P := by omega
      rw [giveTo_full HW.out HP.out] at hown
      have HO := Lib.hid (ownN_sl hown)
      obtain ⟨n0, n1, n2, n3, nf⟩ := HG2.four
      have z3 := nf 3
      have hgw := HG2.lt
      have HGr := Lib.hid HG2
      have hSM := Lib.hid (ownN_sl HG2.rowM)
      simp only at n1 n2 hSM
      rw [HP.out] at n2
      have M4 := Lib.hid (M1.out.trans (Mvs.below _ hb))
      clear hown nf n0 n3 HG2
      obtain ⟨N, hN⟩ : ∃ N, C.M.length = N := ⟨_, rfl⟩
      rw [hN] at n1 hml
      have HLG := Lib.hid (show (giveL C.H C.W).length = k by rw [giveL_len _ _ HW.out.symm, HP.out])
      have hK := Lib.hid (sticky_all (k : Int) C.M (giveL C.H C.W) N k a (some ⟨go, 0, none⟩) ca c2 wr.drew hN (by omega) HLG.out (by omega) WM.out WO.out (hSM.out.below (below_drewN _ wr 1) (Nat.le_refl _)) (HO.out.below (below_drewN _ wr 1) (Nat.le_refl _)))
      unfold OutPost at hK
      have HF := Lib.hid (show stickyF (k : Int) C.M (giveL C.H C.W) = wantF C from by unfold wantF; rw [HP.out])
      rw [HF.out] at hK
      obtain ⟨D, hD⟩ : ∃ D, wantF C = D := ⟨_, rfl⟩
      rw [hD] at hK HWF
      have HD := Lib.hid hD
      generalize errF (k : Int) = E at hK
      have hGd := Lib.hid (HGr.out.keep (below_drewN _ wr 1))
      have HNN := Lib.hid hN
      clear hN hD HF
      go_upto_region 8 with fail
      go_cut [] from 38 to 54 (fun wx => ∃ d7 c7, CoW wx g (atTo C D 0) a ca b cb d7 c7 ∧ Mvs w wx (CF g a b d) (CF g a b d7))
      case first =>
        go_region_with (go_at_call 38; refine hK.out.mono ?_; rintro e w5 ⟨a7, c7, rfl, own7, s7, b7⟩; have k5 := (hGd.out.keep b7).four.2.2.2.1; have zf5 := (hGd.out.keep b7).four.2.2.2.2 3)
        all_goals
          go_wp2_with fail
          go_meet
          have hfin := hGd.out.setW b7 own7
          exact ⟨a7, c7, hfin.1, (M4.out.trans (Mvs.below _ (below_drewN _ wr 1))).trans hfin.2⟩
      case rest =>
        obtain ⟨d7, c7, HG7, M7⟩ := hcut
        have p2 := HG7.four.2.2.1
        have hl7 : (atTo C D 0).H.length = k := HP.out
        rw [hl7] at p2
        have hgl7 := HG7.lt
        clear hK hGd n1 n2 z3
        go_wp2_with fail
        go_loopw [60] (fun I wr => ∃ q : Nat, q ≤ k ∧ I = .int .i64 q ∧ CoW wr g (atTo C D q) a ca b cb d7 c7 ∧ Mvs w wr (CF g a b d) (CF g a b d7)) (fun I _ => k - (intOf I).toNat)
        case atStart => exact ⟨0, by omega, rfl, HG7, M7⟩
        case round =>
          obtain ⟨q, hq, rfl, HG8, M8⟩ := hrel
          by_cases hlt : q < k
          · have hlt2 : (q : Int) < (k : Int) := by omega
            have hq0 : 0 ≤ (q : Int) := by omega
            have KG := give_walk q (atTo C D q) g a ca b cb d7 c7 wr (by show q < (giveTo C.H D q).length; rw [giveTo_len, HP.out]; exact hlt) (by show D.length = (giveTo C.H D q).length; rw [giveTo_len]; exact HWF.out) HG8
            have e1 : ({ atTo C D q with H := (atTo C D q).H.set q (giveA (atTo C D q).H (atTo C D q).W q) } : Co) = atTo C D (q + 1) := by
              unfold atTo
              simp only
              have : giveA (giveTo C.H D q) D q = giveA C.H D q := by unfold giveA; rw [giveTo_next]
              rw [this]
              rfl
            rw [e1] at KG
            have KG' := Lib.hid KG
            have M8' := Lib.hid M8
            clear KG e1 HG8 M8
            go_wp2_with fail
            refine KG'.out.mono ?_
            rintro e w9 ⟨rfl, HG9, M9⟩
            have M10 := M8'.out.trans M9
            clear KG'
            go_wp2_with fail
            go_roundw
            case rel => exact ⟨q + 1, by omega, by go_num, HG9, M10⟩
            case measure => simp [intOf]; omega
          · obtain rfl : q = k := by omega
            have e1 : atTo C D q = begC C := by
              unfold atTo begC
              rw [HD.out, giveTo_full HWF.out HP.out]
            rw [e1] at HG8
            go_wp2_with fail
            go_end0
            exact ⟨by first | rfl | trivial, d7, c7, HG8, M8⟩
end Go.Proofs.Ytafibgekikjlhaa
