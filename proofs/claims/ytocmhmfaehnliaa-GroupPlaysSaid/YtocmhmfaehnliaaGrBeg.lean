/- The walk of Group.begin. -/
import Derived.Test.YtocmhmfaehnliaaGr
import Derived.Test.YtocmhmfaehnliaaAsKit
import Derived.Deep.RegionLaw
import Derived.Deep.Cut
import Derived.BigQuiet
namespace Go.Proofs.Ytocmhmfaehnliaa
open Go.RowKit Vm As
set_option linter.unusedVariables false
set_option linter.unusedSimpArgs false

def BegPost (g : Nat) (a b : Option Addr) (c : Nat) (G' : Gr) (w : World) (e : Ending) (w' : World) : Prop := e = .returned (.tuple #[]) ∧ ∃ b' d', GrW w' g G' a c b' d' ∧ Mvs w w' (SF g a b) (SF g a b')
theorem beg_end {w wr w5 : World} {g : Nat} {G : Gr} {a : Option Addr} {c : Nat} {b : Option Addr} {d : Nat} {a7 : Option Addr} {c7 : Nat} (HG : GrW wr g { G with g := G.g + 1 } a c b d) (b7 : Below wr.heap.size wr w5)
    (own7 : w5.ownsRow wr.heap.size 3 1 (.slice a7 (ownF G).length c7) (ownF G).length (i64s (ownF G))) (M4 : Mvs w wr (SF g a b) (SF g a b)) :
    BegPost g a b c (begG G) w (.returned (.tuple #[])) (w5.setCell ⟨g, 5, none⟩ (.slice a7 (ownF G).length c7)) := by
  have hgw := HG.lt
  have h1 := HG.setO (D := ownF G) (b' := a7) (d' := c7) (w' := w5) (b7.block g hgw) (fun x hx => b7.block _ (own_low HG.rowL x hx).2) (ownN_base own7 (Nat.zero_le _))
  refine ⟨rfl, a7, c7, h1, Mvs.setG (M4.trans ⟨b7.mono (Nat.zero_le _), fun k hk _ => b7.block k hk, fun k hk => ?_⟩) (.inl rfl) 5 _⟩
  rcases hk with h | h | ⟨x, hx, rfl⟩
  · exact .inl (.inl h)
  · exact .inl (.inr (.inl h))
  · exact .inr (own_low own7 x hx).1
set_option maxRecDepth 100000 in
set_option maxHeartbeats 8000000 in
theorem beg_walk (K : Nat) (G : Gr) (g : Nat) (a : Option Addr) (c : Nat) (b : Option Addr) (d : Nat) (w : World) (hK : K ≤ 900) (hok : GOk G K) (hmax : G.g ≠ 1099511627776) (h : GrW w g G a c b d) :
    Calls Try.prog 42 #[.pointer (some ⟨g, 0, none⟩)] w (BegPost g a b c (begG G) w) := by
  obtain ⟨i0, hi, hz0, hz1, hz2⟩ := info_parts info_i64
  have hlN := hok.len
  have hg0 := hok.g0
  have hg1 := hok.g1
  have ho1 := hok.o1
  have ho0 := hok.o0
  have WI := Lib.hid hok.wfI
  have WO := Lib.hid hok.wfO
  have HG0 := Lib.hid h
  have hgl := h.lt
  have hww : IntKind.i64.wrap (G.g + 1) = G.g + 1 := IntWalk.i64_in _ (by omega)
  obtain ⟨m0, m1, m2, m3, m4, m5, hfz⟩ := h.six
  have f1 := hfz 1
  have f5 := hfz 5
  have H1 := Lib.hid (h.setI (G.g + 1))
  have M1 := Lib.hid ((Mvs.refl w (SF g a b)).setG (.inl rfl) 1 (.int .i64 (G.g + 1)))
  clear hfz h
  go_enter Try.func42, Try.ntmps42
  go_upto_region 1 with fail
  obtain ⟨w1, hw1⟩ : ∃ w1, w1 = w.setCell ⟨g, 1, none⟩ (.int .i64 (G.g + 1)) := ⟨_, rfl⟩
  rw [← hw1] at M1 H1 ⊢
  clear hw1 m0 m1 m2 m3 m4 m5 f1 f5 hww
  obtain ⟨N, hN⟩ : ∃ N, G.L.length = N := ⟨_, rfl⟩
  have HN := Lib.hid hN
  rw [hN] at hlN
  clear hN
  have k4 := H1.out.six.2.2.2.2.1
  simp only at k4
  rw [HN.out] at k4
  have hz1s := M1.out.size
  go_wp2_with fail
  go_loopw [2, 17] (fun R I wr => ∃ k : Nat, k ≤ N ∧ I = .int .i64 k ∧ wr.ownsRow w1.heap.size 3 1 R k (i64s (idsL (G.L.take k))) ∧ Below w1.heap.size w1 wr) (fun _ I _ => N - (intOf I).toNat)
  case atStart => exact ⟨0, by omega, rfl, by simpa [i64s, idsL] using World.ownsRow_nil _ _ _ _, Below.refl _ _⟩
  case round =>
    obtain ⟨k, hk, rfl, hown, hb⟩ := hrel
    have HG2 := H1.out.keep hb
    by_cases hlt : k < N
    · have hil : k < G.L.length := by rw [HN.out]; exact hlt
      have hlt2 : (k : Int) < (N : Int) := by omega
      have hk0 : 0 ≤ (k : Int) := by omega
      have hrow := HG2.rowL
      simp only at hrow
      rw [HN.out] at hrow
      obtain ⟨ga, rfl, hgb, hgl2, _, hcc⟩ := ownN_at hrow (by omega)
      have hca := mbCells_at G.L k hil
      have r0 := hcc _ _ hca.1
      have r1 := hcc _ _ hca.2.1
      have r2 := hcc _ _ hca.2.2
      have HT := Lib.hid (idsL_take G.L k hil)
      obtain ⟨v, hv⟩ : ∃ v, G.L.getD k mb0 = v := ⟨_, rfl⟩
      rw [hv] at r0 r1 r2 HT
      have hal := balloc wr (.cells #[.int .i64 v.i, .int .i64 v.k, .int .i64 v.d] 49)
      have V1 := Whole.new wr 49 #[.int .i64 v.i, .int .i64 v.k, .int .i64 v.d]
      have own1 := own_keep hown hal
      have b2 := gtrans hb hal
      clear hcc hca hv hrow HG2
      go_upto_region 5 with fail
      obtain ⟨w2, hw2⟩ : ∃ w2, w2 = wr.alloc (.cells #[.int .i64 v.i, .int .i64 v.k, .int .i64 v.d] 49) := ⟨_, rfl⟩
      rw [← hw2] at hal V1 own1 b2 ⊢
      clear hw2 r0 r1 r2 hown hb hal
      have v0 := V1.cell 0
      simp only [List.getElem?_toArray, List.getElem?_cons_zero, List.getElem?_cons_succ] at v0
      clear V1
      have hb2z := b2.size
      go_wp2_with (at_builtin; refine wpList_append_own _ rfl _ _ 39 rfl w1.heap.size 3 i0 (.int .i64 0) 1 8 Try.underlying39 hi hz0 hz1 hz2 rfl (by decide) _ _ _ rfl (own1.alloc _) ⟨w2.heap.size, 0, none⟩ 1 1 [.int .i64 v.i] rfl rfl ?c1 ?c2 ?c3 ?c4 ?c5 ?_)
      case c1 =>
        intro j u hj
        match j, hj with
        | 0, hj => simp at hj; subst hj; simp [Addr.add]
      case c2 => intro u hu; simp at hu; subst hu; rfl
      case c3 => unfold maxLen; omega
      case c4 => omega
      case c5 => exact Nat.le_trans b2.size (by simp)
      intro v' w3 hown' hgrow _
      have hb3 := (b2.alloc b2.size _).grown hgrow (by have := b2.size; simp; omega) (fun k hk => (own1.lt k hk).1)
      have hown3 : w3.ownsRow w1.heap.size 3 1 v' (k + 1) (i64s (idsL (G.L.take (k + 1)))) := by
        rw [HT.out, i64s_snoc]; simpa using hown'
      clear hown' hgrow own1 b2 v0 hb2z
      go_wp2_with fail
      go_roundw
      case rel => exact ⟨k + 1, by omega, by go_num, hown3, hb3⟩
      case measure => simp [intOf]; omega
    · obtain rfl : k = N := by omega
      obtain ⟨a6, c6, rfl⟩ := ownN_shape hown
      have hids : idsL (G.L.take k) = idsL G.L := by rw [List.take_of_length_le (by rw [HN.out]; exact Nat.le_refl _)]
      rw [hids] at hown
      have HO := Lib.hid (ownN_sl hown)
      have M4 := Lib.hid (M1.out.trans (Mvs.below _ hb))
      obtain ⟨n0, n1, n2, n3, n4, n5, nf⟩ := HG2.six
      have z5 := nf 5
      have hgw := HG2.lt
      have HGr := Lib.hid HG2
      have hSO := Lib.hid (ownN_sl HG2.rowO)
      simp only at n0 n5 hSO
      clear hown hids nf n1 n2 n3 n4 HG2 k4
      obtain ⟨P, hP⟩ : ∃ P, G.O.length = P := ⟨_, rfl⟩
      have HP := Lib.hid hP
      rw [hP] at n5 ho1 ho0
      cases hst : G.st with
      | true =>
        have HST := Lib.hid hst
        rw [hst] at n0
        have hK := Lib.hid (sticky_all (P : Int) (idsL G.L) G.O k P a6 b c6 d wr.drew (by rw [idsL_len, HN.out]) (by omega) hP (by omega) WI.out WO.out (HO.out.below (below_drewN _ wr 1) (Nat.le_refl _)) (hSO.out.below (below_drewN _ wr 1) (Nat.le_refl _)))
        unfold OutPost at hK
        have HF := Lib.hid (show stickyF (P : Int) (idsL G.L) G.O = ownF G from by unfold ownF; rw [if_pos HST.out, HP.out])
        rw [HF.out] at hK
        generalize errF (P : Int) = E at hK
        have hGd := Lib.hid (HGr.out.keep (below_drewN _ wr 1))
        clear hst hP hmax
        go_wp2_with fail
        go_region_with (go_at_call 49; refine hK.out.mono ?_; rintro e w5 ⟨a7, c7, rfl, own7, s7, b7⟩; have k5 := (hGd.out.keep b7).six.2.2.2.2.2.1; have zf5 := (hGd.out.keep b7).six.2.2.2.2.2.2 5)
        all_goals
          go_end0
          exact beg_end HGr.out (undrew b7) own7 M4.out
      | false =>
        have HST := Lib.hid hst
        rw [hst] at n0
        have hK := Lib.hid (range_all (P : Int) (idsL G.L) k a6 c6 wr (by rw [idsL_len, HN.out]) (by omega) HO.out)
        unfold OutPost at hK
        have HF := Lib.hid (show rangeF (P : Int) (idsL G.L) = ownF G from by unfold ownF; rw [if_neg (by rw [HST.out]; decide), HP.out])
        rw [HF.out] at hK
        generalize errF (P : Int) = E at hK
        clear hst hP hmax
        go_wp2_with fail
        refine hK.out.mono ?_
        rintro e w5 ⟨a7, c7, rfl, own7, s7, b7⟩
        have k5 := (HGr.out.keep b7).six.2.2.2.2.2.1
        have zf5 := (HGr.out.keep b7).six.2.2.2.2.2.2 5
        go_wp2_with fail
        go_end0
        exact beg_end HGr.out b7 own7 M4.out
end Go.Proofs.Ytocmhmfaehnliaa
