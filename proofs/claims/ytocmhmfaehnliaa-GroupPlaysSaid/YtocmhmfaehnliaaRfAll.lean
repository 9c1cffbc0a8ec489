/- The document's group: memory and calls. -/
import Derived.Test.YtocmhmfaehnliaaGrExp
import Derived.Deep.Cut
import Derived.BigQuiet
import Derived.Deep.RegionLaw
import Derived.Test.YtocmhmfaehnliaaAsRSticky
import Derived.Deep.RegionWith
import Derived.Deep.AppendLies
namespace Go.Proofs.Ytocmhmfaehnliaa
open Go.RowKit Vm As
set_option linter.unusedVariables false
set_option linter.unusedSimpArgs false


/-- A group at block g: its box, its members' row, its owners' row. -/
structure RfW (w : World) (g : Nat) (G : Gr) (a : Option Addr) (c : Nat) (b : Option Addr) (d : Nat) : Prop where
  box : Whole w g 41 #[.int .i64 (G.O.length : Int), .bool G.st, .int .i64 G.g, .int .i64 G.n, .int .i64 G.t, .slice a G.L.length c, .slice b G.O.length d]
  rowL : w.ownsRow 0 49 3 (.slice a G.L.length c) G.L.length (mbCells G.L)
  rowO : w.ownsRow 0 3 1 (.slice b G.O.length d) G.O.length (i64s G.O)
theorem RfW.keep {w w' : World} {g : Nat} {G : Gr} {a : Option Addr} {c : Nat} {b : Option Addr} {d : Nat} (h : RfW w g G a c b d) (hb : Below w.heap.size w w') : RfW w' g G a c b d := ⟨h.box.keep hb, own_keep h.rowL hb, own_keep h.rowO hb⟩
theorem RfW.lt {w : World} {g : Nat} {G : Gr} {a : Option Addr} {c : Nat} {b : Option Addr} {d : Nat} (h : RfW w g G a c b d) : g < w.heap.size := h.box.lt
theorem RfW.neA {w : World} {g : Nat} {G : Gr} {a : Option Addr} {c : Nat} {b : Option Addr} {d : Nat} (h : RfW w g G a c b d) : ∀ x, a = some x → x.block ≠ g := own_box h.rowL h.box (by decide)
theorem RfW.neB {w : World} {g : Nat} {G : Gr} {a : Option Addr} {c : Nat} {b : Option Addr} {d : Nat} (h : RfW w g G a c b d) : ∀ x, b = some x → x.block ≠ g := own_box h.rowO h.box (by decide)
theorem RfW.neAB {w : World} {g : Nat} {G : Gr} {a : Option Addr} {c : Nat} {b : Option Addr} {d : Nat} (h : RfW w g G a c b d) : ∀ x y, a = some x → b = some y → x.block ≠ y.block := by
  rintro x y rfl rfl he
  have h1 := own_ne h.rowL h.rowO (by decide) x.block rfl
  exact h1 (by rw [he]; rfl)
theorem RfW.live {w : World} {g : Nat} {G : Gr} {a : Option Addr} {c : Nat} {b : Option Addr} {d : Nat} (h : RfW w g G a c b d) : ∀ k, SF g a b k → k < w.heap.size := by
  rintro k (rfl | ⟨x, hx, rfl⟩ | ⟨x, hx, rfl⟩)
  · exact h.lt
  · exact (own_low h.rowL x hx).2
  · exact (own_low h.rowO x hx).2
theorem RfW.seven {w : World} {g : Nat} {G : Gr} {a : Option Addr} {c : Nat} {b : Option Addr} {d : Nat} (h : RfW w g G a c b d) : w.cell? ⟨g, 0, none⟩ = some (.int .i64 (G.O.length : Int)) ∧ w.cell? ⟨g, 1, none⟩ = some (.bool G.st) ∧ w.cell? ⟨g, 2, none⟩ = some (.int .i64 G.g) ∧ w.cell? ⟨g, 3, none⟩ = some (.int .i64 G.n) ∧ w.cell? ⟨g, 4, none⟩ = some (.int .i64 G.t) ∧ w.cell? ⟨g, 5, none⟩ = some (.slice a G.L.length c) ∧ w.cell? ⟨g, 6, none⟩ = some (.slice b G.O.length d) ∧ (∀ j, w.frozen? ⟨g, j, none⟩ = false) :=
  ⟨h.box.cell 0, h.box.cell 1, h.box.cell 2, h.box.cell 3, h.box.cell 4, h.box.cell 5, h.box.cell 6, h.box.frozen⟩
theorem RfW.setI {w : World} {g : Nat} {G : Gr} {a : Option Addr} {c : Nat} {b : Option Addr} {d : Nat} (h : RfW w g G a c b d) (v : Int) : RfW (w.setCell ⟨g, 2, none⟩ (.int .i64 v)) g { G with g := v } a c b d :=
  ⟨h.box.set 2 _, own_set h.rowL h.neA 2 _, own_set h.rowO h.neB 2 _⟩
theorem RfW.setN {w : World} {g : Nat} {G : Gr} {a : Option Addr} {c : Nat} {b : Option Addr} {d : Nat} (h : RfW w g G a c b d) (v : Int) : RfW (w.setCell ⟨g, 3, none⟩ (.int .i64 v)) g { G with n := v } a c b d :=
  ⟨h.box.set 3 _, own_set h.rowL h.neA 3 _, own_set h.rowO h.neB 3 _⟩
theorem RfW.setT {w : World} {g : Nat} {G : Gr} {a : Option Addr} {c : Nat} {b : Option Addr} {d : Nat} (h : RfW w g G a c b d) (v : Int) : RfW (w.setCell ⟨g, 4, none⟩ (.int .i64 v)) g { G with t := v } a c b d :=
  ⟨h.box.set 4 _, own_set h.rowL h.neA 4 _, own_set h.rowO h.neB 4 _⟩
theorem RfW.setL {w w' : World} {g : Nat} {G : Gr} {a a' : Option Addr} {c c' : Nat} {b : Option Addr} {d : Nat} {D : List Mb} (h : RfW w g G a c b d) (hg : w'.heap[g]? = w.heap[g]?) (hB : ∀ x, b = some x → w'.heap[x.block]? = w.heap[x.block]?) (ho : w'.ownsRow 0 49 3 (.slice a' D.length c') D.length (mbCells D)) :
    RfW (w'.setCell ⟨g, 5, none⟩ (.slice a' D.length c')) g { G with L := D } a' c' b d :=
  ⟨Whole.set (show Whole w' g _ _ from hg.trans h.box) 5 _, own_set ho (own_box ho (show Whole w' g _ _ from hg.trans h.box) (by decide)) 5 _, own_set (own_same h.rowO hB) h.neB 5 _⟩
theorem RfW.setO {w w' : World} {g : Nat} {G : Gr} {a : Option Addr} {c : Nat} {b b' : Option Addr} {d d' : Nat} {D : List Int} (h : RfW w g G a c b d) (hD : D.length = G.O.length) (hg : w'.heap[g]? = w.heap[g]?) (hA : ∀ x, a = some x → w'.heap[x.block]? = w.heap[x.block]?) (ho : w'.ownsRow 0 3 1 (.slice b' D.length d') D.length (i64s D)) :
    RfW (w'.setCell ⟨g, 6, none⟩ (.slice b' D.length d')) g { G with O := D } a c b' d' := by
  refine ⟨?_, own_set (own_same h.rowL hA) h.neA 6 _, own_set ho (own_box ho (show Whole w' g _ _ from hg.trans h.box) (by decide)) 6 _⟩
  have := Whole.set (show Whole w' g _ _ from hg.trans h.box) 6 (.slice b' D.length d')
  simp only
  rw [hD] at this ⊢
  exact this
/-- A new row of members. -/
theorem rf_put {w w3 : World} {g : Nat} {G : Gr} {a a7 : Option Addr} {c c7 : Nat} {b : Option Addr} {d : Nat} {D : List Mb} (h : RfW w g G a c b d) (hb : Below w.heap.size w w3) (ho : w3.ownsRow w.heap.size 49 3 (.slice a7 D.length c7) D.length (mbCells D)) :
    RfW (w3.setCell ⟨g, 5, none⟩ (.slice a7 D.length c7)) g { G with L := D } a7 c7 b d ∧ Mvs w (w3.setCell ⟨g, 5, none⟩ (.slice a7 D.length c7)) (SF g a b) (SF g a7 b) := by
  refine ⟨h.setL (hb.block g h.lt) (fun x hx => hb.block _ (own_low h.rowO x hx).2) (ownN_base ho (Nat.zero_le _)), Mvs.setG ⟨hb.mono (Nat.zero_le _), fun k hk _ => hb.block k hk, fun k hk => ?_⟩ (.inl rfl) 5 _⟩
  rcases hk with h1 | ⟨x, hx, rfl⟩ | h1
  · exact .inl (.inl h1)
  · exact .inr (own_low ho x hx).1
  · exact .inl (.inr (.inr h1))
/-- New owners. -/
theorem rf_own {w w5 : World} {g : Nat} {G : Gr} {a : Option Addr} {c : Nat} {b b7 : Option Addr} {d d7 : Nat} {D : List Int} (h : RfW w g G a c b d) (hD : D.length = G.O.length) (hb : Below w.heap.size w w5) (ho : w5.ownsRow w.heap.size 3 1 (.slice b7 D.length d7) D.length (i64s D)) :
    RfW (w5.setCell ⟨g, 6, none⟩ (.slice b7 D.length d7)) g { G with O := D } a c b7 d7 ∧ Mvs w (w5.setCell ⟨g, 6, none⟩ (.slice b7 D.length d7)) (SF g a b) (SF g a b7) := by
  refine ⟨h.setO hD (hb.block g h.lt) (fun x hx => hb.block _ (own_low h.rowL x hx).2) (ownN_base ho (Nat.zero_le _)), Mvs.setG ⟨hb.mono (Nat.zero_le _), fun k hk _ => hb.block k hk, fun k hk => ?_⟩ (.inl rfl) 6 _⟩
  rcases hk with h1 | h1 | ⟨x, hx, rfl⟩
  · exact .inl (.inl h1)
  · exact .inl (.inr (.inl h1))
  · exact .inr (own_low ho x hx).1
def RfP (g : Nat) (a b : Option Addr) (G' : Gr) (E : Value) (w : World) (e : Ending) (w' : World) : Prop := e = .returned E ∧ ∃ a' c' b' d', RfW w' g G' a' c' b' d' ∧ Mvs w w' (SF g a b) (SF g a' b')
theorem RfP.same {w w' : World} {g : Nat} {G : Gr} {a : Option Addr} {c : Nat} {b : Option Addr} {d : Nat} (E : Value) (h : RfW w g G a c b d) (hb : Below w.heap.size w w') : RfP g a b G E w (.returned E) w' :=
  ⟨rfl, a, c, b, d, h.keep hb, Mvs.below _ hb⟩

def atI (L : List Mb) (id : Int) : Int := if hasI L id = true then (idxI L id : Int) else -1
set_option maxRecDepth 100000 in
set_option maxHeartbeats 4000000 in
theorem rat_walk (id : Int) (G : Gr) (g : Nat) (a : Option Addr) (c : Nat) (b : Option Addr) (d : Nat) (w : World) (hNm : G.L.length ≤ 1000) (h : RfW w g G a c b d) :
    Calls Try.prog 46 #[.pointer (some ⟨g, 0, none⟩), .int .i64 id] w fun e w' => e = .returned (.int .i64 (atI G.L id)) ∧ Below w.heap.size w w' := by
  have HG := Lib.hid h
  have hg := h.lt
  obtain ⟨N, hN⟩ : ∃ N, G.L.length = N := ⟨_, rfl⟩
  have HN := Lib.hid hN
  rw [hN] at hNm
  clear h hN
  go_enter Try.func46, Try.ntmps46
  go_wp2_with fail
  go_loopw [5] (fun I wr => ∃ k : Nat, k ≤ N ∧ I = .int .i64 k ∧ Hid (NoI G.L id k) ∧ Below w.heap.size w wr) (fun I _ => N - (intOf I).toNat)
  case atStart => exact ⟨0, by omega, rfl, Lib.hid (fun p hp => by omega), Below.refl _ _⟩
  case round =>
    obtain ⟨k, hk, rfl, HL, hbw⟩ := hrel
    have HG2 := HG.out.keep hbw
    have n5 := HG2.seven.2.2.2.2.2.1
    rw [HN.out] at n5
    have hgw := HG2.lt
    by_cases hlt : k < N
    · have hil : k < G.L.length := by rw [HN.out]; exact hlt
      have hown := HG2.rowL
      rw [HN.out] at hown
      obtain ⟨ga, rfl, hgb, hgl, _, hcc⟩ := ownN_at hown (by omega)
      have r0 := hcc _ _ (mbCells_at G.L k hil).1
      obtain ⟨v, hv⟩ : ∃ v, (G.L.getD k mb0).i = v := ⟨_, rfl⟩
      rw [hv] at r0
      have HV := Lib.hid hv
      clear hv hcc hown HG2
      by_cases he : v = id
      · have HF := Lib.hid (idx_found hil HL.out (by rw [HV.out, he]))
        subst he
        go_wp2_with fail
        go_ret
        exact ⟨by unfold atI; rw [if_pos HF.out.1, HF.out.2]; rfl, hbw⟩
      · have HL2 := Lib.hid (show NoI G.L id (k + 1) from fun p hp => by
          rcases Nat.lt_or_ge p k with h1 | h1
          · exact HL.out p h1
          · rw [show p = k from by omega, HV.out]; exact he)
        have hb : (v == id) = false := beq_eq_false_iff_ne.2 he
        go_wp2_with fail
        go_roundw
        case rel => exact ⟨k + 1, by omega, by go_num, HL2, hbw⟩
        case measure => simp [intOf]; omega
    · obtain rfl : k = N := by omega
      clear HG2
      have HF := Lib.hid (idx_none (L := G.L) (id := id) (by rw [HN.out]; exact HL.out))
      go_wp2_with fail
      go_ret
      exact ⟨by unfold atI; rw [HF.out]; rfl, hbw⟩
theorem rf_hear {w : World} {g ga j : Nat} {G : Gr} {c : Nat} {b : Option Addr} {d : Nat} (h : RfW w g G (some ⟨ga, 0, none⟩) c b d) (hj : j < G.L.length) :
    RfW (((w.setCell ⟨ga, j * 3, none⟩ (.int .i64 (G.L.getD j mb0).i)).setCell ⟨ga, j * 3 + 1, none⟩ (.int .i64 (G.L.getD j mb0).k)).setCell ⟨ga, j * 3 + 2, none⟩ (.int .i64 (G.t + 12))) g (hearG G j) (some ⟨ga, 0, none⟩) c b d ∧
    Mvs w (((w.setCell ⟨ga, j * 3, none⟩ (.int .i64 (G.L.getD j mb0).i)).setCell ⟨ga, j * 3 + 1, none⟩ (.int .i64 (G.L.getD j mb0).k)).setCell ⟨ga, j * 3 + 2, none⟩ (.int .i64 (G.t + 12))) (SF g (some ⟨ga, 0, none⟩) b) (SF g (some ⟨ga, 0, none⟩) b) := by
  have hne : ga ≠ g := h.neA _ rfl
  have hl : (G.L.set j { G.L.getD j mb0 with d := G.t + 12 }).length = G.L.length := by simp
  have hS : SF g (some ⟨ga, 0, none⟩) b ga := .inr (.inl ⟨_, rfl, rfl⟩)
  refine ⟨⟨?_, ?_, ?_⟩, (((Mvs.refl _ _).setG hS _ _).setG hS _ _).setG hS _ _⟩
  · have := ((h.box.far ga (j * 3) (.int .i64 (G.L.getD j mb0).i) (Ne.symm hne)).far ga (j * 3 + 1) (.int .i64 (G.L.getD j mb0).k) (Ne.symm hne)).far ga (j * 3 + 2) (.int .i64 (G.t + 12)) (Ne.symm hne)
    unfold hearG
    simp only [hl]
    exact this
  · have := mb_store3 h.rowL hj { G.L.getD j mb0 with d := G.t + 12 }
    unfold hearG
    simp only [hl]
    exact this
  · have hn2 : ∀ x, b = some x → x.block ≠ ga := fun x hx e => h.neAB _ x rfl hx e.symm
    exact own_set (own_set (own_set h.rowO hn2 _ _) hn2 _ _) hn2 _ _
set_option maxRecDepth 100000 in
set_option maxHeartbeats 8000000 in
theorem rheard_walk (j : Nat) (G : Gr) (g : Nat) (a : Option Addr) (c : Nat) (b : Option Addr) (d : Nat) (w : World) (ht : 0 ≤ G.t ∧ G.t ≤ 10000) (hj : j < G.L.length) (h : RfW w g G a c b d) :
    Calls Try.prog 47 #[.pointer (some ⟨g, 0, none⟩), .int .i64 j] w (RfP g a b (hearG G j) (.tuple #[]) w) := by
  obtain ⟨h1, h2⟩ := ht
  obtain ⟨N, hN⟩ : ∃ N, G.L.length = N := ⟨_, rfl⟩
  have HN := Lib.hid hN
  have hjN : j < N := by omega
  have hjN2 : (j : Int) < (N : Int) := by omega
  have hj0 : 0 ≤ (j : Int) := by omega
  have hwt : IntKind.i64.wrap (G.t + 12) = G.t + 12 := IntWalk.i64_in _ (by omega)
  obtain ⟨ga, rfl, _, hgl, hfz, hcc⟩ := ownN_at h.rowL (by omega)
  have hca := mbCells_at G.L j hj
  have r0 := hcc _ _ hca.1
  have r1 := hcc _ _ hca.2.1
  have r2 := hcc _ _ hca.2.2
  obtain ⟨v, hv⟩ : ∃ v, G.L.getD j mb0 = v := ⟨_, rfl⟩
  rw [hv] at r0 r1 r2
  have HV := Lib.hid hv
  have HG := Lib.hid h
  obtain ⟨m0, m1, m2, m3, m4, m5, m6, _⟩ := h.seven
  rw [hN] at m5
  have hgw := h.lt
  have hal := balloc w (.cells #[.int .i64 v.i, .int .i64 v.k, .int .i64 v.d] 49)
  have V1 := Whole.new w 49 #[.int .i64 v.i, .int .i64 v.k, .int .i64 v.d]
  have H1 := h.keep hal
  clear hcc hca hfz hv h hj hN m0 m1 m2 m3
  go_enter Try.func47, Try.ntmps47
  go_upto_region 1 with fail
  obtain ⟨w1, hw1⟩ : ∃ w1, w1 = w.alloc (.cells #[.int .i64 v.i, .int .i64 v.k, .int .i64 v.d] 49) := ⟨_, rfl⟩
  rw [← hw1] at hal V1 H1 ⊢
  clear hw1 r0 r1 r2 m4 m5 m6 hgl hgw
  have n4 := H1.seven.2.2.2.2.1
  have v2 := V1.cell 2
  have z2 := V1.frozen 2
  simp only [List.getElem?_toArray, List.getElem?_cons_zero, List.getElem?_cons_succ] at v2
  have hgw1 := H1.lt
  have hvl := V1.lt
  have V2 := V1.set 2 (.int .i64 (G.t + 12))
  have B2 := hal.setCell (p := ⟨w.heap.size, 2, none⟩) (Nat.le_refl _) (.int .i64 (G.t + 12))
  clear H1
  have H2 := HG.out.keep B2
  go_upto_region 2 with fail
  obtain ⟨w2, hw2⟩ : ∃ w2, w2 = w1.setCell ⟨w.heap.size, 2, none⟩ (.int .i64 (G.t + 12)) := ⟨_, rfl⟩
  rw [← hw2] at V2 B2 H2 ⊢
  simp only [List.setIfInBounds_toArray, List.set_cons_zero, List.set_cons_succ] at V2
  clear hw2 n4 v2 z2 V1 hal hgw1 hvl hwt
  have hHear := rf_hear (H2.keep (below_drewN _ w2 1)) (j := j) (by rw [HN.out]; exact hjN)
  rw [HV.out] at hHear
  have HH := Lib.hid hHear
  have n5 := H2.seven.2.2.2.2.2.1
  rw [HN.out] at n5
  have v0 := V2.cell 0
  have v1 := V2.cell 1
  have v2 := V2.cell 2
  simp only [List.getElem?_toArray, List.getElem?_cons_zero, List.getElem?_cons_succ] at v0 v1 v2
  obtain ⟨ga', e', _, hgl, hfz, hcc⟩ := ownN_at H2.rowL (by rw [HN.out]; omega)
  injection e' with e'
  injection e' with e' _ _
  subst e'
  have hca := mbCells_at G.L j (by rw [HN.out]; exact hjN)
  have r0 := hcc _ _ hca.1
  have r1 := hcc _ _ hca.2.1
  have r2 := hcc _ _ hca.2.2
  have f0 := hfz (j * 3)
  have f1 := hfz (j * 3 + 1)
  have f2 := hfz (j * 3 + 2)
  have hgw2 := H2.lt
  have hvl := V2.lt
  have HM := Lib.hid (Mvs.below (SF g (some ⟨ga, 0, none⟩) b) (B2.trans (below_drewN _ w2 1)))
  clear hcc hca hfz hHear H2 V2
  go_wp2_with fail
  go_region
  all_goals
    go_end0
    exact ⟨by first | rfl | trivial, _, _, _, _, HH.out.1, HM.out.trans HH.out.2⟩

set_option maxRecDepth 100000 in
set_option maxHeartbeats 8000000 in
theorem rbeg_walk (K : Nat) (G : Gr) (g : Nat) (a : Option Addr) (c : Nat) (b : Option Addr) (d : Nat) (w : World) (hK : K ≤ 900) (hok : GOk G K) (hmax : G.g ≠ 1099511627776) (h : RfW w g G a c b d) :
    Calls Try.prog 45 #[.pointer (some ⟨g, 0, none⟩)] w (RfP g a b (begG G) (.tuple #[]) w) := by
  obtain ⟨i0, hi, hz0, hz1, hz2⟩ := info_parts info_i64
  have hlN := hok.len
  have hg0 := hok.g0
  have hg1 := hok.g1
  have ho1 := hok.o1
  have ho0 := hok.o0
  have WI := Lib.hid hok.wfI
  have WO := Lib.hid hok.wfO
  have HOl := Lib.hid (ownF_len G hok.o0 (by have := hok.o1; omega))
  have H1 := Lib.hid h
  have hgl := h.lt
  obtain ⟨N, hN⟩ : ∃ N, G.L.length = N := ⟨_, rfl⟩
  have HN := Lib.hid hN
  rw [hN] at hlN
  clear h hN hok
  go_enter Try.func45, Try.ntmps45
  go_wp2_with fail
  go_loopw [2, 3] (fun R I wr => ∃ k : Nat, k ≤ N ∧ I = .int .i64 k ∧ wr.ownsRow w.heap.size 3 1 R k (i64s (idsL (G.L.take k))) ∧ Below w.heap.size w wr) (fun _ I _ => N - (intOf I).toNat)
  case atStart => exact ⟨0, by omega, rfl, by simpa [i64s, idsL] using World.ownsRow_nil _ _ _ _, Below.refl _ _⟩
  case round =>
    obtain ⟨k, hk, rfl, hown, hb⟩ := hrel
    have HG2 := H1.out.keep hb
    have n5 := HG2.seven.2.2.2.2.2.1
    rw [HN.out] at n5
    have hgw := HG2.lt
    by_cases hlt : k < N
    · have hil : k < G.L.length := by rw [HN.out]; exact hlt
      have hlt2 : (k : Int) < (N : Int) := by omega
      have hk0 : 0 ≤ (k : Int) := by omega
      have hrow := HG2.rowL
      rw [HN.out] at hrow
      obtain ⟨ga, rfl, hgb, hgl2, _, hcc⟩ := ownN_at hrow (by omega)
      have r0 := hcc _ _ (mbCells_at G.L k hil).1
      have HT := Lib.hid (idsL_take G.L k hil)
      obtain ⟨v, hv⟩ : ∃ v, (G.L.getD k mb0).i = v := ⟨_, rfl⟩
      rw [hv] at r0 HT
      clear hcc hv hrow HG2
      go_wp2_with (at_builtin; refine wpList_append_own _ rfl _ _ 39 rfl w.heap.size 3 i0 (.int .i64 0) 1 8 Try.underlying39 hi hz0 hz1 hz2 rfl (by decide) _ _ _ rfl (hown.alloc _) ⟨wr.heap.size, 0, none⟩ 1 1 [.int .i64 v] rfl rfl ?c1 ?c2 ?c3 ?c4 ?c5 ?_)
      case c1 =>
        intro j u hj
        match j, hj with
        | 0, hj => simp at hj; subst hj; simp [Addr.add]
      case c2 => intro u hu; simp at hu; subst hu; rfl
      case c3 => unfold maxLen; omega
      case c4 => omega
      case c5 => exact Nat.le_trans hb.size (by simp)
      intro v' w3 hown' hgrow _
      have hb3 := (hb.alloc hb.size _).grown hgrow (by have := hb.size; simp; omega) (fun k hk => (hown.lt k hk).1)
      have hown3 : w3.ownsRow w.heap.size 3 1 v' (k + 1) (i64s (idsL (G.L.take (k + 1)))) := by
        rw [HT.out, i64s_snoc]; simpa using hown'
      clear hown' hgrow hown r0
      go_wp2_with fail
      go_roundw
      case rel => exact ⟨k + 1, by omega, by go_num, hown3, hb3⟩
      case measure => simp [intOf]; omega
    · obtain rfl : k = N := by omega
      obtain ⟨a6, c6, rfl⟩ := ownN_shape hown
      have hids : idsL (G.L.take k) = idsL G.L := by rw [List.take_of_length_le (by rw [HN.out]; exact Nat.le_refl _)]
      rw [hids] at hown
      have hww : IntKind.i64.wrap (G.g + 1) = G.g + 1 := IntWalk.i64_in _ (by omega)
      obtain ⟨m0, m1, m2, m3, m4, m5, m6, hfz⟩ := HG2.seven
      have f2 := hfz 2
      have H3 := HG2.setI (G.g + 1)
      have M3 := (Mvs.below (SF g a b) hb).setG (.inl rfl) 2 (.int .i64 (G.g + 1))
      have ho3 := own_set (g := g) hown (fun x hx e => by have := (own_low hown x hx).1; omega) 2 (.int .i64 (G.g + 1))
      clear hids hown HG2 hfz m0 m1 m3 m4 m5 m6
      go_upto_region 6 with fail
      obtain ⟨w3, hw3⟩ : ∃ w3, w3 = wr.setCell ⟨g, 2, none⟩ (.int .i64 (G.g + 1)) := ⟨_, rfl⟩
      rw [← hw3] at H3 M3 ho3 ⊢
      clear hw3 m2 f2 hww n5
      have HO := Lib.hid (ownN_sl ho3)
      have hSO := Lib.hid (ownN_sl H3.rowO)
      have HM3 := Lib.hid M3
      have HH3 := Lib.hid H3
      simp only at hSO
      obtain ⟨P, hP⟩ : ∃ P, G.O.length = P := ⟨_, rfl⟩
      have HP := Lib.hid hP
      obtain ⟨n0, n1, n2, n3, n4, n5, n6, nf⟩ := H3.seven
      simp only at n0 n1 n6
      rw [hP] at n0 n6 ho1 ho0
      have hgw3 := H3.lt
      clear ho3 H3 M3 n2 n3 n4 n5 nf hgw
      cases hst : G.st with
      | true =>
        have HST := Lib.hid hst
        rw [hst] at n1
        have hK := Lib.hid (rsticky_all (P : Int) (idsL G.L) G.O k P a6 b c6 d w3.drew (by rw [idsL_len, HN.out]) (by omega) hP (by omega) (HO.out.below (below_drewN _ w3 1) (Nat.le_refl _)) (hSO.out.below (below_drewN _ w3 1) (Nat.le_refl _)))
        unfold OutPost at hK
        have HF := Lib.hid (show stickyF (P : Int) (idsL G.L) G.O = ownF G from by unfold ownF; rw [if_pos HST.out, HP.out])
        rw [HF.out] at hK
        generalize errF (P : Int) = E at hK
        clear hst hP hmax
        go_wp2_with fail
        go_region_with (go_at_call 51; refine hK.out.mono ?_; rintro e w5 ⟨a7, c7, rfl, own7, s7, b7⟩)
        all_goals
          have b7' := undrew b7
          have H5 := HH3.out.keep b7'
          have k6 := H5.seven.2.2.2.2.2.2.1
          have zf6 := H5.seven.2.2.2.2.2.2.2 6
          have hg5 := H5.lt
          obtain ⟨H6, M6⟩ := rf_own HH3.out (D := ownF G) HOl.out b7' own7
          have HH6 := Lib.hid H6
          have HM6 := Lib.hid (HM3.out.trans M6)
          clear H5 H6 M6 n0 n1 n6
          go_wp2_with fail
          go_end0
          exact ⟨by first | rfl | trivial, _, _, _, _, HH6.out, HM6.out⟩
      | false =>
        have HST := Lib.hid hst
        rw [hst] at n1
        have hK := Lib.hid (rrange_all (P : Int) (idsL G.L) k a6 c6 w3 (by rw [idsL_len, HN.out]) (by omega) HO.out)
        unfold OutPost at hK
        have HF := Lib.hid (show rangeF (P : Int) (idsL G.L) = ownF G from by unfold ownF; rw [if_neg (by rw [HST.out]; decide), HP.out])
        rw [HF.out] at hK
        generalize errF (P : Int) = E at hK
        clear hst hP hmax
        go_wp2_with fail
        refine hK.out.mono ?_
        rintro e w5 ⟨a7, c7, rfl, own7, s7, b7⟩
        have H5 := HH3.out.keep b7
        have k6 := H5.seven.2.2.2.2.2.2.1
        have zf6 := H5.seven.2.2.2.2.2.2.2 6
        have hg5 := H5.lt
        obtain ⟨H6, M6⟩ := rf_own HH3.out (D := ownF G) HOl.out b7 own7
        have HH6 := Lib.hid H6
        have HM6 := Lib.hid (HM3.out.trans M6)
        clear H5 H6 M6 n0 n1 n6
        go_wp2_with fail
        go_end0
        exact ⟨by first | rfl | trivial, _, _, _, _, HH6.out, HM6.out⟩

theorem keepP_take {p : Mb → Bool} {L : List Mb} {k : Nat} (hk : k < L.length) : keepP p (L.take (k + 1)) = keepP p (L.take k) ++ (if p (L.getD k mb0) = true then [] else [L.getD k mb0]) := by
  rw [take_get L mb0 k hk]
  cases h : p (L.getD k mb0)
  · rw [keepP_snoc_yes h, if_neg (by decide)]
  · rw [keepP_snoc_no h, if_pos rfl, List.append_nil]
theorem rjoin_bad (x : Int) (G : Gr) (g : Nat) (a : Option Addr) (c : Nat) (b : Option Addr) (d : Nat) (w : World) (hx : x < 1 ∨ 8 < x) (h : RfW w g G a c b d) :
    Calls Try.prog 30 #[.pointer (some ⟨g, 0, none⟩), .int .i64 x] w (RfP g a b G (.tuple #[.int .i64 0, .int .i64 0, .int .i64 1]) w) := by
  have HF := Lib.hid (RfP.same (.tuple #[.int .i64 0, .int .i64 0, .int .i64 1]) h (Below.refl _ _))
  clear h
  rcases (show x < 1 ∨ (¬ x < 1 ∧ 8 < x) by omega) with h1 | ⟨h1, h2⟩ <;>
  · clear hx
    go_enter Try.func30, Try.ntmps30
    go_wp2_with fail
    go_ret3
    exact HF.out
set_option maxRecDepth 100000 in
set_option maxHeartbeats 4000000 in
theorem rjoin_full (x : Int) (G : Gr) (g : Nat) (a : Option Addr) (c : Nat) (b : Option Addr) (d : Nat) (w : World) (hx : ¬ x < 1 ∧ ¬ 8 < x) (hg1 : G.g ≤ 1099511627776) (hn1 : G.n ≤ 1099511627776) (hf : G.g = 1099511627776 ∨ G.n = 1099511627776) (h : RfW w g G a c b d) :
    Calls Try.prog 30 #[.pointer (some ⟨g, 0, none⟩), .int .i64 x] w (RfP g a b G (.tuple #[.int .i64 0, .int .i64 0, .int .i64 6]) w) := by
  obtain ⟨h1, h2⟩ := hx
  have HF := Lib.hid (RfP.same (.tuple #[.int .i64 0, .int .i64 0, .int .i64 6]) h (Below.refl _ _))
  obtain ⟨m0, m1, m2, m3, m4, m5, m6, hfz⟩ := h.seven
  have hgl := h.lt
  clear h hfz m0 m1 m4 m5 m6
  have hc : (1099511627776 ≤ G.g) ∨ (¬ 1099511627776 ≤ G.g ∧ 1099511627776 ≤ G.n) := by omega
  clear hf hg1 hn1
  generalize G.g = gg at *
  generalize G.n = gn at *
  rcases hc with h3 | ⟨h3, h4⟩
  · go_enter Try.func30, Try.ntmps30
    go_wp2_with fail
    go_ret3
    exact HF.out
  · go_enter Try.func30, Try.ntmps30
    go_wp2_with fail
    go_ret3
    exact HF.out
set_option maxRecDepth 100000 in
set_option maxHeartbeats 8000000 in
theorem rjoin_good (K : Nat) (x : Int) (G : Gr) (g : Nat) (a : Option Addr) (c : Nat) (b : Option Addr) (d : Nat) (w : World) (hK : K ≤ 800) (hok : GOk G K) (hx : ¬ x < 1 ∧ ¬ 8 < x) (hf : G.g ≠ 1099511627776 ∧ G.n ≠ 1099511627776) (h : RfW w g G a c b d) :
    Calls Try.prog 30 #[.pointer (some ⟨g, 0, none⟩), .int .i64 x] w (RfP g a b (begG (addG G x)) (.tuple #[.int .i64 G.n, .int .i64 (G.g + 1), .int .i64 0]) w) := by
  obtain ⟨i0, hi, hz0, hz1, hz2⟩ := info_parts info_mb
  obtain ⟨h1, h2⟩ := hx
  have hlN := hok.len
  have hg0 := hok.g0
  have hg1 := hok.g1
  have hn0 := hok.n0
  have hn1 := hok.n1
  have ht0 := hok.t0
  have ht1 := hok.t1
  have h3 : ¬ 1099511627776 ≤ G.g := by have := hf.1; omega
  have h4 : ¬ 1099511627776 ≤ G.n := by have := hf.2; omega
  have HO2 := Lib.hid (addG_ok (x := x) hok (by omega) hf.2)
  have HF := Lib.hid hf
  have H1 := Lib.hid h
  have hgl := h.lt
  obtain ⟨m0, m1, m2, m3, m4, m5, m6, hfz⟩ := h.seven
  obtain ⟨N, hN⟩ : ∃ N, G.L.length = N := ⟨_, rfl⟩
  have HN := Lib.hid hN
  rw [hN] at hlN m5
  clear hok hf h hfz hN m0 m1 m4 m6
  go_enter Try.func30, Try.ntmps30
  go_wp2_with fail
  clear m2 m3 m5
  go_loopw [7, 8] (fun R I wr => ∃ k : Nat, k ≤ N ∧ I = .int .i64 k ∧ wr.ownsRow w.heap.size 49 3 R (keepP (byW x) (G.L.take k)).length (mbCells (keepP (byW x) (G.L.take k))) ∧ Below w.heap.size w wr) (fun _ I _ => N - (intOf I).toNat)
  case atStart => exact ⟨0, by omega, rfl, by simpa [mbCells, keepP] using World.ownsRow_nil _ _ _ _, Below.refl _ _⟩
  case round =>
    obtain ⟨k, hk, rfl, hown, hb⟩ := hrel
    have HG2 := H1.out.keep hb
    have n5 := HG2.seven.2.2.2.2.2.1
    rw [HN.out] at n5
    have hgw := HG2.lt
    by_cases hlt : k < N
    · have hil : k < G.L.length := by rw [HN.out]; exact hlt
      have hlt2 : (k : Int) < (N : Int) := by omega
      have hk0 : 0 ≤ (k : Int) := by omega
      have hrow := HG2.rowL
      rw [HN.out] at hrow
      obtain ⟨ga, rfl, hgb, hgl2, _, hcc⟩ := ownN_at hrow (by omega)
      have hca := mbCells_at G.L k hil
      have r0 := hcc _ _ hca.1
      have r1 := hcc _ _ hca.2.1
      have r2 := hcc _ _ hca.2.2
      have hT := keepP_take (p := byW x) hil
      have hkl : (keepP (byW x) (G.L.take k)).length ≤ k := by
        have := keepP_len (byW x) (G.L.take k)
        rw [List.length_take] at this
        omega
      obtain ⟨v, hv⟩ : ∃ v, G.L.getD k mb0 = v := ⟨_, rfl⟩
      rw [hv] at r0 r1 r2 hT
      obtain ⟨D, hD⟩ : ∃ D, keepP (byW x) (G.L.take k) = D := ⟨_, rfl⟩
      rw [hD] at hT hown hkl
      clear hcc hca hv hrow HG2 hD
      by_cases hvk : v.k = x
      · have hq : (v.k != x) = false := by simp [hvk]
        have hbw : byW x v = true := by unfold byW; simp [hvk]
        rw [if_pos hbw, List.append_nil] at hT
        have HT := Lib.hid hT
        clear hvk hbw hT
        go_wp2_with fail
        go_roundw
        case rel => exact ⟨k + 1, by omega, by go_num, by rw [HT.out]; exact hown, hb⟩
        case measure => simp [intOf]; omega
      · have hq : (v.k != x) = true := by simpa using hvk
        have hbw : byW x v = false := by unfold byW; simpa using hvk
        rw [if_neg (by rw [hbw]; decide)] at hT
        have HT := Lib.hid hT
        clear hvk hbw hT
        go_wp2_with (at_builtin; refine wpList_append_own _ rfl _ _ 38 rfl w.heap.size 49 i0 (.agg #[.int .i64 0, .int .i64 0, .int .i64 0]) 3 24 Try.underlying38 hi hz0 hz1 hz2 rfl (by decide) _ _ _ rfl (hown.alloc _) ⟨wr.heap.size, 0, none⟩ 1 1 [.int .i64 v.i, .int .i64 v.k, .int .i64 v.d] rfl rfl ?c1 ?c2 ?c3 ?c4 ?c5 ?_)
        case c1 => exact new_mb_cells wr v
        case c2 => exact mb_one v
        case c3 => unfold maxLen; omega
        case c4 => omega
        case c5 => exact Nat.le_trans hb.size (by simp)
        intro v' w3 hown' hgrow _
        have hb3 := (hb.alloc hb.size _).grown hgrow (by have := hb.size; simp; omega) (fun k hk => (hown.lt k hk).1)
        have hown3 : w3.ownsRow w.heap.size 49 3 v' (keepP (byW x) (G.L.take (k + 1))).length (mbCells (keepP (byW x) (G.L.take (k + 1)))) := by
          rw [HT.out, mbCells_snoc]; simpa using hown'
        clear hown' hgrow hown r0 r1 r2
        go_wp2_with fail
        go_roundw
        case rel => exact ⟨k + 1, by omega, by go_num, hown3, hb3⟩
        case measure => simp [intOf]; omega
    · obtain rfl : k = N := by omega
      obtain ⟨a6, c6, rfl⟩ := ownN_shape hown
      rw [List.take_of_length_le (show G.L.length ≤ k by rw [HN.out]; exact Nat.le_refl _)] at hown
      obtain ⟨D, hD⟩ : ∃ D, keepP (byW x) G.L = D := ⟨_, rfl⟩
      have HD := Lib.hid hD
      have hDl : D.length ≤ k := by rw [← hD]; have := keepP_len (byW x) G.L; rw [HN.out] at this; exact this
      rw [show (keepP (byW x) (G.L.take k)).length = D.length from by rw [List.take_of_length_le (show G.L.length ≤ k by rw [HN.out]; exact Nat.le_refl _), hD]] at *
      rw [hD] at hown
      obtain ⟨n, hn⟩ : ∃ n, D.length = n := ⟨_, rfl⟩
      rw [hn] at hown hDl ⊢
      have HNn := Lib.hid hn
      obtain ⟨m0, m1, m2, m3, m4, m5, m6, hfz⟩ := HG2.seven
      have hwt : IntKind.i64.wrap (G.t + 12) = G.t + 12 := IntWalk.i64_in _ (by omega)
      clear hD hn hfz m0 m1 m2 m5 m6
      go_wp2_with (at_builtin; refine wpList_append_own _ rfl _ _ 38 rfl w.heap.size 49 i0 (.agg #[.int .i64 0, .int .i64 0, .int .i64 0]) 3 24 Try.underlying38 hi hz0 hz1 hz2 rfl (by decide) _ _ _ rfl (hown.alloc _) ⟨wr.heap.size, 0, none⟩ 1 1 [.int .i64 G.n, .int .i64 x, .int .i64 (G.t + 12)] rfl rfl ?c1 ?c2 ?c3 ?c4 ?c5 ?_)
      case c1 => exact new_mb_cells wr ⟨G.n, x, G.t + 12⟩
      case c2 => exact mb_one ⟨G.n, x, G.t + 12⟩
      case c3 => unfold maxLen; omega
      case c4 => omega
      case c5 => exact Nat.le_trans hb.size (by simp)
      intro v' w3 hown' hgrow _
      have hb3 := (hb.alloc hb.size _).grown hgrow (by have := hb.size; simp; omega) (fun k hk => (hown.lt k hk).1)
      obtain ⟨a7, c7, rfl⟩ := ownN_shape hown'
      have hown3 : w3.ownsRow w.heap.size 49 3 (.slice a7 (D ++ [(⟨G.n, x, G.t + 12⟩ : Mb)]).length c7) (D ++ [(⟨G.n, x, G.t + 12⟩ : Mb)]).length (mbCells (D ++ [(⟨G.n, x, G.t + 12⟩ : Mb)])) := by
        rw [mbCells_snoc, List.length_append, HNn.out]; simpa using hown'
      have H3 := H1.out.keep hb3
      have k5 := H3.seven.2.2.2.2.2.1
      have z5 := H3.seven.2.2.2.2.2.2.2 5
      have hg3 := H3.lt
      obtain ⟨H4, M4⟩ := rf_put H1.out hb3 hown3
      have hll : (D ++ [(⟨G.n, x, G.t + 12⟩ : Mb)]).length = n + 1 := by rw [List.length_append, HNn.out]; rfl
      rw [hll] at H4 M4
      clear hown' hgrow hown hown3 HG2 m3 m4 n5 hwt H3
      go_upto_region 14 with fail
      obtain ⟨w4, hw4⟩ : ∃ w4, w4 = w3.setCell ⟨g, 5, none⟩ (.slice a7 (n + 1) c7) := ⟨_, rfl⟩
      rw [← hw4] at H4 M4 ⊢
      clear hw4 k5 z5 hg3
      obtain ⟨m0, m1, m2, m3, m4, m5, m6, hfz⟩ := H4.seven
      have f3 := hfz 3
      simp only at m3
      have hg4 := H4.lt
      have hwn : IntKind.i64.wrap (G.n + 1) = G.n + 1 := IntWalk.i64_in _ (by omega)
      have H5 := H4.setN (G.n + 1)
      have M5 := M4.setG (.inl rfl) 3 (.int .i64 (G.n + 1))
      clear hfz m0 m1 m2 m4 m5 m6 H4 M4
      go_upto_region 15 with fail
      obtain ⟨w5, hw5⟩ : ∃ w5, w5 = w4.setCell ⟨g, 3, none⟩ (.int .i64 (G.n + 1)) := ⟨_, rfl⟩
      rw [← hw5] at H5 M5 ⊢
      clear hw5 m3 f3 hwn
      have H7 : RfW w5 g (addG G x) a7 c7 b d := by unfold addG; rw [HD.out]; exact H5
      have KB := Lib.hid (rbeg_walk (K + 1) (addG G x) g _ c7 b d w5 (by omega) HO2.out HF.out.1 H7)
      have M7 := Lib.hid M5
      clear H5 M5 H7
      go_wp2_with fail
      refine KB.out.mono ?_
      rintro e w8 ⟨rfl, a8, c8, b8, d8, H8, M8⟩
      have n2 := H8.seven.2.2.1
      simp only [begG, addG] at n2
      have hgl8 := H8.lt
      have HFin := Lib.hid (fun nq => show ∃ a' c' b' d', RfW (w8.drewN nq) g (begG (addG G x)) a' c' b' d' ∧ Mvs w (w8.drewN nq) (SF g a b) (SF g a' b') from ⟨_, _, _, _, H8.keep (below_drewN _ _ _), (M7.out.trans M8).trans (Mvs.below _ (below_drewN _ _ _))⟩)
      clear H8 M8
      go_wp2_with fail
      go_quiet (fail)
      go_wp2_with fail
      go_ret3
      exact ⟨rfl, HFin.out _⟩
theorem rjoin_walk (K : Nat) (x : Int) (G : Gr) (g : Nat) (a : Option Addr) (c : Nat) (b : Option Addr) (d : Nat) (w : World) (hK : K ≤ 800) (hok : GOk G K) (h : RfW w g G a c b d) :
    Calls Try.prog 30 #[.pointer (some ⟨g, 0, none⟩), .int .i64 x] w (RfP g a b (joinG G x) (joinV G x) w) := by
  unfold joinG joinV joinI joinN joinE
  by_cases h1 : x < 1 ∨ 8 < x
  · simp only [if_pos h1]
    exact rjoin_bad x G g a c b d w h1 h
  · simp only [if_neg h1]
    by_cases h2 : G.g = 1099511627776 ∨ G.n = 1099511627776
    · simp only [if_pos h2]
      exact rjoin_full x G g a c b d w (by omega) hok.g1 hok.n1 h2 h
    · simp only [if_neg h2, if_true]
      exact rjoin_good K x G g a c b d w hK hok (by omega) (by omega) h

theorem atI_yes {L : List Mb} {id : Int} (h : hasI L id = true) : atI L id = (idxI L id : Int) := by unfold atI; rw [if_pos h]
theorem atI_no {L : List Mb} {id : Int} (h : ¬ hasI L id = true) : atI L id = -1 := by unfold atI; rw [if_neg h]
def RSyncP (g : Nat) (a b : Option Addr) (G' : Gr) (N : Int) (L : List Int) (E : Int) (w : World) (e : Ending) (w' : World) : Prop := ∃ a' c' b' d' al cl, e = .returned (.tuple #[.int .i64 N, .slice al L.length cl, .int .i64 E]) ∧ RfW w' g G' a' c' b' d' ∧ Mvs w w' (SF g a b) (SF g a' b') ∧ Sl w' w'.heap.size al (i64s L)
set_option maxRecDepth 100000 in
set_option maxHeartbeats 8000000 in
theorem rsync_walk (K : Nat) (x : Int) (G : Gr) (g : Nat) (a : Option Addr) (c : Nat) (b : Option Addr) (d : Nat) (w : World) (hK : K ≤ 800) (hok : GOk G K) (h : RfW w g G a c b d) :
    Calls Try.prog 31 #[.pointer (some ⟨g, 0, none⟩), .int .i64 x] w (RSyncP g a b (syncG G x) (syncN G x) (syncL G x) (syncE G x) w) := by
  obtain ⟨i0, hi, hz0, hz1, hz2⟩ := info_parts info_i64
  have hlN := hok.len
  have ht0 := hok.t0
  have ht1 := hok.t1
  have ho1 := hok.o1
  have KM := Lib.hid (rat_walk x G g a c b d w (by omega) h)
  have HG := Lib.hid h
  unfold syncG syncN syncL syncE
  clear hok h
  by_cases hh : hasI G.L x = true
  · simp only [if_pos hh]
    rw [atI_yes hh] at KM
    have hj := (idx_lt hh).1
    have KH := Lib.hid (fun w' hw => rheard_walk (idxI G.L x) G g a c b d w' (by omega) hj hw)
    unfold RfP at KH
    generalize idxI G.L x = j at *
    clear hh hj
    go_enter Try.func31, Try.ntmps31
    go_wp2_with fail
    refine KM.out.mono ?_
    rintro e w1 ⟨rfl, b1⟩
    have M1 := Mvs.below (SF g a b) b1
    have KH1 := Lib.hid (KH.out w1 (HG.out.keep b1))
    clear KM KH
    go_wp2_with fail
    refine KH1.out.mono ?_
    rintro e w2 ⟨rfl, a2, c2, b2, d2, H2, M2⟩
    have M3 := M1.trans M2
    have HH2 := Lib.hid H2
    obtain ⟨P, hP⟩ : ∃ P, G.O.length = P := ⟨_, rfl⟩
    have hO5 : (hearG G j).O.length = P := hP
    have HP := Lib.hid hP
    rw [hP] at ho1
    clear hP KH1 M1 M2 H2
    have HO5 := Lib.hid hO5
    clear hO5
    go_wp2_with fail
    go_loopw [8, 9] (fun R I wr => ∃ k : Nat, k ≤ P ∧ I = .int .i64 k ∧ wr.ownsRow w2.heap.size 3 1 R (ownTo G.O x k).length (i64s (ownTo G.O x k)) ∧ Below w2.heap.size w2 wr) (fun _ I _ => P - (intOf I).toNat)
    case atStart => exact ⟨0, by omega, rfl, by simpa [i64s, ownTo] using World.ownsRow_nil _ _ _ _, Below.refl _ _⟩
    case round =>
      obtain ⟨k, hk, rfl, hown, hb⟩ := hrel
      have HG2 := HH2.out.keep hb
      have m6 := HG2.seven.2.2.2.2.2.2.1
      rw [HO5.out] at m6
      have hgw := HG2.lt
      by_cases hlt : k < P
      · have hil : k < G.O.length := by rw [HP.out]; exact hlt
        have hlt2 : (k : Int) < (P : Int) := by omega
        have hk0 : 0 ≤ (k : Int) := by omega
        have hrow := HG2.rowO
        rw [HO5.out] at hrow
        have hOO : (hearG G j).O = G.O := rfl
        rw [hOO] at hrow
        obtain ⟨gb, rfl, hgb, hgl2, _, hcc⟩ := ownN_at hrow (by omega)
        have r0 := hcc _ _ (i64s_get G.O k hil)
        have hEq : ownTo G.O x (k + 1) = ownTo G.O x k ++ (if G.O.getD k 0 = x then [(k : Int)] else []) := rfl
        obtain ⟨v, hv⟩ : ∃ v, G.O.getD k 0 = v := ⟨_, rfl⟩
        rw [hv] at r0 hEq
        have hll := ownTo_len G.O x k
        clear hcc hrow hv HG2 hOO
        by_cases he : v = x
        · rw [if_pos he] at hEq
          have HE := Lib.hid hEq
          subst he
          generalize hDD : ownTo G.O v k = D at *
          have HDD := Lib.hid hDD
          clear hEq hDD
          go_wp2_with (at_builtin; refine wpList_append_own _ rfl _ _ 39 rfl w2.heap.size 3 i0 (.int .i64 0) 1 8 Try.underlying39 hi hz0 hz1 hz2 rfl (by decide) _ _ _ rfl (hown.alloc _) ⟨wr.heap.size, 0, none⟩ 1 1 [.int .i64 k] rfl rfl ?c1 ?c2 ?c3 ?c4 ?c5 ?_)
          case c1 =>
            intro q u hj
            match q, hj with
            | 0, hj => simp at hj; subst hj; simp [Addr.add]
          case c2 => intro u hu; simp at hu; subst hu; rfl
          case c3 => unfold maxLen; omega
          case c4 => omega
          case c5 => exact Nat.le_trans hb.size (by simp)
          intro v' w3 hown' hgrow _
          have hb3 := (hb.alloc hb.size _).grown hgrow (by have := hb.size; simp; omega) (fun k hk => (hown.lt k hk).1)
          have hown3 : w3.ownsRow w2.heap.size 3 1 v' (ownTo G.O v (k + 1)).length (i64s (ownTo G.O v (k + 1))) := by
            rw [HE.out, i64s_snoc]; simpa using hown'
          clear hown' hgrow hown hb
          go_wp2_with fail
          go_roundw
          case rel => exact ⟨k + 1, by omega, by go_num, hown3, hb3⟩
          case measure => simp [intOf]; omega
        · rw [if_neg he, List.append_nil] at hEq
          have HE := Lib.hid hEq
          have hbe : (v == x) = false := by simpa using he
          clear hEq
          go_wp2_with fail
          go_roundw
          case rel => exact ⟨k + 1, by omega, by go_num, by rw [HE.out]; exact hown, hb⟩
          case measure => simp [intOf]; omega
      · obtain rfl : k = P := by omega
        obtain ⟨a6, c6, rfl⟩ := ownN_shape hown
        have n2 := HG2.seven.2.2.1
        have hgg : (hearG G j).g = G.g := rfl
        rw [hgg] at n2
        have sl := Lib.hid (ownN_sl hown)
        have M4 := Lib.hid (M3.trans (Mvs.below _ hb))
        have HG3 := Lib.hid HG2
        clear hown HG2 hb
        go_wp2_with fail
        go_ret3
        exact ⟨_, _, _, _, a6, c6, by rw [HP.out]; rfl, HG3.out, M4.out, by rw [HP.out]; exact sl.out⟩
  · simp only [if_neg hh]
    rw [atI_no hh] at KM
    clear hh
    go_enter Try.func31, Try.ntmps31
    go_wp2_with fail
    refine KM.out.mono ?_
    rintro e w1 ⟨rfl, b1⟩
    have HF := Lib.hid (HG.out.keep b1)
    clear KM
    go_wp2_with fail
    go_ret3
    exact ⟨a, c, b, d, none, 0, rfl, HF.out, Mvs.below _ b1, Sl.nil _ _ _⟩
set_option maxRecDepth 100000 in
set_option maxHeartbeats 4000000 in
theorem rbeat_walk (K : Nat) (x y : Int) (G : Gr) (g : Nat) (a : Option Addr) (c : Nat) (b : Option Addr) (d : Nat) (w : World) (hK : K ≤ 800) (hok : GOk G K) (h : RfW w g G a c b d) :
    Calls Try.prog 32 #[.pointer (some ⟨g, 0, none⟩), .int .i64 x, .int .i64 y] w (RfP g a b (beatG G x y) (.int .i64 (beatE G x y)) w) := by
  have hlN := hok.len
  have ht0 := hok.t0
  have ht1 := hok.t1
  have KM := Lib.hid (rat_walk x G g a c b d w (by omega) h)
  have HG := Lib.hid h
  unfold beatG beatE
  clear hok h
  by_cases hh : hasI G.L x = true
  · simp only [if_pos hh]
    rw [atI_yes hh] at KM
    have hj := (idx_lt hh).1
    have KH := Lib.hid (fun w' hw => rheard_walk (idxI G.L x) G g a c b d w' (by omega) hj hw)
    unfold RfP at KH
    generalize idxI G.L x = j at *
    clear hh hj
    by_cases hy : y = G.g
    · simp only [if_pos hy, if_true]
      have hq : (y != G.g) = false := by simp [hy]
      go_enter Try.func32, Try.ntmps32
      go_wp2_with fail
      refine KM.out.mono ?_
      rintro e w1 ⟨rfl, b1⟩
      have M1 := Mvs.below (SF g a b) b1
      have H1 := HG.out.keep b1
      have n2 := H1.seven.2.2.1
      have hgw := H1.lt
      have KH1 := Lib.hid (KH.out w1 H1)
      generalize G.g = gg at *
      clear KM KH hy H1
      go_wp2_with fail
      refine KH1.out.mono ?_
      rintro e w2 ⟨rfl, a2, c2, b2, d2, H2, M2⟩
      have HH2 := Lib.hid H2
      have HM2 := Lib.hid (M1.trans M2)
      clear H2 M2
      go_wp2_with fail
      go_ret
      exact ⟨rfl, _, _, _, _, HH2.out, HM2.out⟩
    · simp only [if_neg hy]
      have hq : (y != G.g) = true := by simpa using hy
      go_enter Try.func32, Try.ntmps32
      go_wp2_with fail
      refine KM.out.mono ?_
      rintro e w1 ⟨rfl, b1⟩
      have H1 := HG.out.keep b1
      have n2 := H1.seven.2.2.1
      have hgw := H1.lt
      have HF := Lib.hid (RfP.same (.int .i64 12) HG.out b1)
      clear KM KH hy H1
      go_wp2_with fail
      go_ret
      exact ⟨rfl, by have := HF.out.2; simpa using this⟩
  · simp only [if_neg hh]
    rw [atI_no hh] at KM
    clear hh
    go_enter Try.func32, Try.ntmps32
    go_wp2_with fail
    refine KM.out.mono ?_
    rintro e w1 ⟨rfl, b1⟩
    have HF := Lib.hid (RfP.same (.int .i64 11) HG.out b1)
    clear KM
    go_wp2_with fail
    go_ret
    exact ⟨rfl, by have := HF.out.2; simpa using this⟩
set_option maxRecDepth 100000 in
set_option maxHeartbeats 4000000 in
theorem rmay_walk (K : Nat) (x y z : Int) (G : Gr) (g : Nat) (a : Option Addr) (c : Nat) (b : Option Addr) (d : Nat) (w : World) (hK : K ≤ 800) (hok : GOk G K) (h : RfW w g G a c b d) :
    Calls Try.prog 35 #[.pointer (some ⟨g, 0, none⟩), .int .i64 x, .int .i64 y, .int .i64 z] w fun e w' => e = .returned (.int .i64 (mayE G x y z)) ∧ Below w.heap.size w w' := by
  have hlN := hok.len
  have ho1 := hok.o1
  have KM := Lib.hid (rat_walk x G g a c b d w (by omega) h)
  have HG := Lib.hid h
  unfold mayE
  clear hok h
  by_cases hh : hasI G.L x = true
  · simp only [if_pos hh]
    by_cases hy : y = G.g
    · have hq : (y != G.g) = false := by simp [hy]
      simp only [if_pos hy]
      obtain ⟨P, hP⟩ : ∃ P, G.O.length = P := ⟨_, rfl⟩
      have HP := Lib.hid hP
      rw [hP] at ho1 ⊢
      rcases (show z < 0 ∨ (0 ≤ z ∧ (P : Int) ≤ z) ∨ (0 ≤ z ∧ ¬ (P : Int) ≤ z) by omega) with h1 | ⟨h1, h2⟩ | ⟨h1, h2⟩
      · rw [if_neg (by omega)]
        go_enter Try.func35, Try.ntmps35
        go_wp2_with fail
        refine KM.out.mono ?_
        rintro e w1 ⟨rfl, b1⟩
        rw [atI_yes hh]
        obtain ⟨m0, m1, m2, m3, m4, m5, m6, hfz⟩ := (HG.out.keep b1).seven
        generalize idxI G.L x = j at *
        have hgw := (HG.out.keep b1).lt
        clear KM m1 m3 m4 m5 hfz hy hh
        go_wp2_with fail
        go_ret
        exact ⟨rfl, b1⟩
      · rw [if_neg (by omega)]
        have h3 : ¬ z < 0 := by omega
        go_enter Try.func35, Try.ntmps35
        go_wp2_with fail
        refine KM.out.mono ?_
        rintro e w1 ⟨rfl, b1⟩
        rw [atI_yes hh]
        obtain ⟨m0, m1, m2, m3, m4, m5, m6, hfz⟩ := (HG.out.keep b1).seven
        rw [HP.out] at m0 m6
        generalize idxI G.L x = j at *
        have hgw := (HG.out.keep b1).lt
        clear KM m1 m3 m4 m5 hfz hy hh
        go_wp2_with fail
        go_ret
        exact ⟨rfl, b1⟩
      · obtain ⟨q, rfl⟩ : ∃ q : Nat, z = (q : Int) := ⟨z.toNat, by omega⟩
        have hqP : q < P := by omega
        have h4 : (q : Int) < (P : Int) := by omega
        have h3 : ¬ (q : Int) < 0 := by omega
        rw [show ((q : Int)).toNat = q from by simp]
        have HO := Lib.hid (HG.out.rowO)
        by_cases hv : G.O.getD q 0 = x
        · rw [if_pos ⟨h1, h4, hv⟩]
          have HV := Lib.hid hv
          go_enter Try.func35, Try.ntmps35
          go_wp2_with fail
          refine KM.out.mono ?_
          rintro e w1 ⟨rfl, b1⟩
          rw [atI_yes hh]
          obtain ⟨m0, m1, m2, m3, m4, m5, m6, hfz⟩ := (HG.out.keep b1).seven
          have hrow := (HG.out.keep b1).rowO
          rw [HP.out] at m0 m6 hrow
          obtain ⟨gb, rfl, _, hgl2, _, hcc⟩ := ownN_at hrow (by omega)
          have r0 := hcc _ _ (i64s_get G.O q (by rw [HP.out]; exact hqP))
          rw [HV.out] at r0
          have hne : (x != x) = false := by simp
          generalize idxI G.L x = j at *
          have hgw := (HG.out.keep b1).lt
          clear KM m1 m3 m4 m5 hfz hy hh hcc hrow hv
          go_wp2_with fail
          go_ret
          exact ⟨rfl, b1⟩
        · rw [if_neg (fun hc => hv hc.2.2)]
          obtain ⟨v, hve⟩ : ∃ v, G.O.getD q 0 = v := ⟨_, rfl⟩
          rw [hve] at hv
          have HV := Lib.hid hve
          go_enter Try.func35, Try.ntmps35
          go_wp2_with fail
          refine KM.out.mono ?_
          rintro e w1 ⟨rfl, b1⟩
          rw [atI_yes hh]
          obtain ⟨m0, m1, m2, m3, m4, m5, m6, hfz⟩ := (HG.out.keep b1).seven
          have hrow := (HG.out.keep b1).rowO
          rw [HP.out] at m0 m6 hrow
          obtain ⟨gb, rfl, _, hgl2, _, hcc⟩ := ownN_at hrow (by omega)
          have r0 := hcc _ _ (i64s_get G.O q (by rw [HP.out]; exact hqP))
          rw [HV.out] at r0
          have hne : (v != x) = true := by simpa using hv
          generalize idxI G.L x = j at *
          have hgw := (HG.out.keep b1).lt
          clear KM m1 m3 m4 m5 hfz hy hh hcc hrow hve hv
          go_wp2_with fail
          go_ret
          exact ⟨rfl, b1⟩
    · simp only [if_neg hy]
      have hq : (y != G.g) = true := by simpa using hy
      go_enter Try.func35, Try.ntmps35
      go_wp2_with fail
      refine KM.out.mono ?_
      rintro e w1 ⟨rfl, b1⟩
      rw [atI_yes hh]
      obtain ⟨m0, m1, m2, m3, m4, m5, m6, hfz⟩ := (HG.out.keep b1).seven
      generalize idxI G.L x = j at *
      have hgw := (HG.out.keep b1).lt
      clear KM m1 m3 m4 m5 hfz hy hh
      go_wp2_with fail
      go_ret
      exact ⟨rfl, b1⟩
  · simp only [if_neg hh]
    go_enter Try.func35, Try.ntmps35
    go_wp2_with fail
    refine KM.out.mono ?_
    rintro e w1 ⟨rfl, b1⟩
    rw [atI_no hh]
    clear KM
    go_wp2_with fail
    go_ret
    exact ⟨rfl, b1⟩

set_option maxRecDepth 100000 in
set_option maxHeartbeats 8000000 in
theorem rtick_walk (K : Nat) (G : Gr) (g : Nat) (a : Option Addr) (c : Nat) (b : Option Addr) (d : Nat) (w : World) (hK : K ≤ 800) (hok : GOk G K) (h : RfW w g G a c b d) :
    Calls Try.prog 34 #[.pointer (some ⟨g, 0, none⟩)] w (RfP g a b (tickG G) (.bool (tickB G)) w) := by
  obtain ⟨i0, hi, hz0, hz1, hz2⟩ := info_parts info_mb
  have hlN := hok.len
  have ht0 := hok.t0
  have ht1 := hok.t1
  have hg1 := hok.g1
  have HOk := Lib.hid (tickL_ok hok)
  obtain ⟨m0, m1, m2, m3, m4, m5, m6, hfz⟩ := h.seven
  have f4 := hfz 4
  have hgl := h.lt
  have hwt : IntKind.i64.wrap (G.t + 1) = G.t + 1 := IntWalk.i64_in _ (by omega)
  have H2' := h.setT (G.t + 1)
  have M2' := (Mvs.refl w (SF g a b)).setG (.inl rfl) 4 (.int .i64 (G.t + 1))
  clear hok h hfz m0 m1 m3 m5 m6
  go_enter Try.func34, Try.ntmps34
  go_upto_region 2 with fail
  obtain ⟨w2, hw2⟩ : ∃ w2, w2 = w.setCell ⟨g, 4, none⟩ (.int .i64 (G.t + 1)) := ⟨_, rfl⟩
  rw [← hw2] at H2' M2' ⊢
  clear hw2 m2 m4 f4 hwt
  have H2 := Lib.hid H2'
  have M2 := Lib.hid M2'
  obtain ⟨m0, m1, m2, m3, m4, m5, m6, hfz⟩ := H2'.seven
  simp only at m2
  have hgl2 := H2'.lt
  by_cases hmax : G.g = 1099511627776
  · have HT := Lib.hid (tickG_max hmax)
    have hq : 1099511627776 ≤ G.g := by omega
    clear H2' M2' hmax m0 m1 m3 m4 m5 m6 hfz
    go_wp2_with fail
    go_ret
    exact ⟨by rw [HT.out.2]; rfl, a, c, b, d, by rw [HT.out.1]; exact H2.out, M2.out⟩
  · have hq : ¬ 1099511627776 ≤ G.g := by omega
    have HX := Lib.hid hmax
    obtain ⟨N, hN⟩ : ∃ N, G.L.length = N := ⟨_, rfl⟩
    have HN := Lib.hid hN
    rw [hN] at hlN
    clear H2' M2' hmax m0 m1 m3 m4 m5 m6 hfz hN
    go_wp2_with fail
    clear m2
    go_loopw [3, 4] (fun R I wr => ∃ k : Nat, k ≤ N ∧ I = .int .i64 k ∧ wr.ownsRow w2.heap.size 49 3 R (keepP (byT (G.t + 1)) (G.L.take k)).length (mbCells (keepP (byT (G.t + 1)) (G.L.take k))) ∧ Below w2.heap.size w2 wr) (fun _ I _ => N - (intOf I).toNat)
    case atStart => exact ⟨0, by omega, rfl, by simpa [mbCells, keepP] using World.ownsRow_nil _ _ _ _, Below.refl _ _⟩
    case round =>
      obtain ⟨k, hk, rfl, hown, hb⟩ := hrel
      have HG2 := H2.out.keep hb
      have n5 := HG2.seven.2.2.2.2.2.1
      rw [HN.out] at n5
      have hgw := HG2.lt
      by_cases hlt : k < N
      · have hil : k < G.L.length := by rw [HN.out]; exact hlt
        have hlt2 : (k : Int) < (N : Int) := by omega
        have hk0 : 0 ≤ (k : Int) := by omega
        have hrow := HG2.rowL
        rw [HN.out] at hrow
        obtain ⟨ga, rfl, hgb, hgl2, _, hcc⟩ := ownN_at hrow (by omega)
        have hca := mbCells_at G.L k hil
        have r0 := hcc _ _ hca.1
        have r1 := hcc _ _ hca.2.1
        have r2 := hcc _ _ hca.2.2
        have hT := keepP_take (p := byT (G.t + 1)) hil
        have hkl : (keepP (byT (G.t + 1)) (G.L.take k)).length ≤ k := by
          have := keepP_len (byT (G.t + 1)) (G.L.take k)
          rw [List.length_take] at this
          omega
        obtain ⟨v, hv⟩ : ∃ v, G.L.getD k mb0 = v := ⟨_, rfl⟩
        rw [hv] at r0 r1 r2 hT
        obtain ⟨D, hD⟩ : ∃ D, keepP (byT (G.t + 1)) (G.L.take k) = D := ⟨_, rfl⟩
        rw [hD] at hT hown hkl
        clear hcc hca hv hrow HG2 hD
        have n4 := (H2.out.keep hb).seven.2.2.2.2.1
        simp only at n4
        have hgt : ∀ nq : Nat, True := fun _ => trivial
        by_cases hvk : v.d ≤ G.t + 1
        · have hq : ¬ G.t + 1 < v.d := by omega
          have hqd : decide (G.t + 1 < v.d) = false := decide_eq_false hq
          have hbw : byT (G.t + 1) v = true := by unfold byT; simpa using hvk
          rw [if_pos hbw, List.append_nil] at hT
          have HT := Lib.hid hT
          have hown2 := Lib.hid (fun nq => (own_keep hown (below_drewN _ wr nq)))
          have hb2 := Lib.hid (fun nq => (hb.trans (below_drewN w2.heap.size wr nq)))
          clear hvk hbw hT hq
          go_wp2_with fail
          go_quiet (fail)
          go_wp2_with fail
          go_roundw
          case rel => exact ⟨k + 1, by omega, by go_num, by rw [HT.out]; exact hown2.out _, hb2.out _⟩
          case measure => simp [intOf]; omega
        · have hq : G.t + 1 < v.d := by omega
          have hqd : decide (G.t + 1 < v.d) = true := decide_eq_true hq
          have hbw : byT (G.t + 1) v = false := by unfold byT; simpa using hvk
          rw [if_neg (by rw [hbw]; decide)] at hT
          have HT := Lib.hid hT
          have hown2 := Lib.hid (fun nq => (own_keep hown (below_drewN _ wr nq)))
          have hb2 := Lib.hid (fun nq => (hb.trans (below_drewN w2.heap.size wr nq)))
          have HG4 := Lib.hid (fun nq => (H2.out.keep hb).keep (below_drewN _ wr nq))
          clear hvk hbw hT hq
          go_wp2_with fail
          go_quiet (fail)
          obtain ⟨wd, hwd⟩ : ∃ wd, wd = wr.drewN nq := ⟨_, rfl⟩
          have q5 : wd.cell? ⟨g, 5, none⟩ = some (.slice (some ⟨ga, 0, none⟩) N c) := by rw [hwd]; exact n5
          have q0 : wd.cell? ⟨ga, k * 3, none⟩ = some (.int .i64 v.i) := by rw [hwd]; exact r0
          have q1 : wd.cell? ⟨ga, k * 3 + 1, none⟩ = some (.int .i64 v.k) := by rw [hwd]; exact r1
          have q2 : wd.cell? ⟨ga, k * 3 + 2, none⟩ = some (.int .i64 v.d) := by rw [hwd]; exact r2
          have hgd : g < wd.heap.size := by rw [hwd]; exact hgw
          have hgad : ga < wd.heap.size := by rw [hwd]; exact hgl2
          have hownd := hown2.out nq
          have hbd := hb2.out nq
          rw [← hwd] at hownd hbd ⊢
          clear hwd n5 r0 r1 r2 hown hb hown2 hb2 HG4 n4 hgw hgl2
          go_wp2_with (at_builtin; refine wpList_append_own _ rfl _ _ 38 rfl w2.heap.size 49 i0 (.agg #[.int .i64 0, .int .i64 0, .int .i64 0]) 3 24 Try.underlying38 hi hz0 hz1 hz2 rfl (by decide) _ _ _ rfl (hownd.alloc _) ⟨wd.heap.size, 0, none⟩ 1 1 [.int .i64 v.i, .int .i64 v.k, .int .i64 v.d] rfl rfl ?c1 ?c2 ?c3 ?c4 ?c5 ?_)
          case c1 => exact new_mb_cells wd v
          case c2 => exact mb_one v
          case c3 => unfold maxLen; omega
          case c4 => omega
          case c5 => exact Nat.le_trans hbd.size (by simp)
          intro v' w3 hown' hgrow _
          have hb3 := (hbd.alloc hbd.size _).grown hgrow (by have := hbd.size; simp; omega) (fun k hk => (hownd.lt k hk).1)
          have hown3 : w3.ownsRow w2.heap.size 49 3 v' (keepP (byT (G.t + 1)) (G.L.take (k + 1))).length (mbCells (keepP (byT (G.t + 1)) (G.L.take (k + 1)))) := by
            rw [HT.out, mbCells_snoc]; simpa using hown'
          clear hown' hgrow hownd q0 q1 q2 q5
          go_wp2_with fail
          go_roundw
          case rel => exact ⟨k + 1, by omega, by go_num, hown3, hb3⟩
          case measure => simp [intOf]; omega
      · obtain rfl : k = N := by omega
        obtain ⟨a6, c6, rfl⟩ := ownN_shape hown
        rw [List.take_of_length_le (show G.L.length ≤ k by rw [HN.out]; exact Nat.le_refl _)] at hown
        obtain ⟨D, hD⟩ : ∃ D, keepP (byT (G.t + 1)) G.L = D := ⟨_, rfl⟩
        rw [show (keepP (byT (G.t + 1)) (G.L.take k)).length = D.length from by rw [List.take_of_length_le (show G.L.length ≤ k by rw [HN.out]; exact Nat.le_refl _), hD]] at *
        have HD := Lib.hid hD
        rw [hD] at hown
        have HOW := Lib.hid hown
        obtain ⟨n, hn⟩ : ∃ n, D.length = n := ⟨_, rfl⟩
        have HNn := Lib.hid hn
        rw [hn] at ⊢
        have hTL : (tickL G).L = D := hD
        have HTL := Lib.hid hTL
        clear hown hD hn hTL
        by_cases he : n = k
        · have hqe : ((n : Int) == (k : Int)) = true := by simp [he]
          have HT := Lib.hid (tickG_same HX.out (by rw [HTL.out, HNn.out, HN.out, he]))
          have hDL : D = G.L := by
            have := HD.out
            rw [← this]
            exact List.filter_eq_self.2 (List.length_filter_eq_length_iff.1 (by show (keepP _ _).length = _; rw [HD.out, HNn.out, HN.out, he]))
          have HGG : Hid (RfW wr g (tickL G) a c b d) := Lib.hid (by
            have h1 : tickL G = { G with t := G.t + 1 } := by
              unfold tickL
              rw [HD.out, hDL]
            rw [h1]
            exact HG2)
          have HMM := Lib.hid (M2.out.trans (Mvs.below _ hb))
          clear HG2 he hDL hb
          go_wp2_with fail
          go_ret
          exact ⟨by rw [HT.out.2]; rfl, _, _, _, _, by rw [HT.out.1]; exact HGG.out, HMM.out⟩
        · have hqe : ((n : Int) == (k : Int)) = false := beq_eq_false_iff_ne.2 (by omega)
          have HT := Lib.hid (tickG_turn HX.out (by rw [HTL.out, HNn.out, HN.out]; exact he))
          have z5 := HG2.seven.2.2.2.2.2.2.2 5
          obtain ⟨H4, M4⟩ := rf_put H2.out hb HOW.out
          rw [HNn.out] at H4 M4
          have H4' : RfW (wr.setCell ⟨g, 5, none⟩ (.slice a6 n c6)) g (tickL G) a6 c6 b d := by
            unfold tickL
            rw [HD.out]
            exact H4
          clear H4 HG2 he hb
          go_upto_region 13 with fail
          obtain ⟨w4, hw4⟩ : ∃ w4, w4 = wr.setCell ⟨g, 5, none⟩ (.slice a6 n c6) := ⟨_, rfl⟩
          rw [← hw4] at H4' M4 ⊢
          have KB := Lib.hid (rbeg_walk (K + 1) (tickL G) g _ c6 b d w4 (by omega) HOk.out HX.out H4')
          have HM4 := Lib.hid (M2.out.trans M4)
          clear hw4 z5 n5 H4' M4 hqe
          go_wp2_with fail
          refine KB.out.mono ?_
          rintro e w8 ⟨rfl, a8, c8, b8, d8, H8, M8⟩
          have HH8 := Lib.hid H8
          have HM8 := Lib.hid (HM4.out.trans M8)
          clear H8 M8
          go_wp2_with fail
          go_ret
          exact ⟨by rw [HT.out.2]; rfl, _, _, _, _, by rw [HT.out.1]; exact HH8.out, HM8.out⟩
theorem leave_one {L : List Mb} {id : Int} (ha : Asc L) (h : hasI L id = true) : keepP (byI id) L = L.take (idxI L id) ++ L.drop (idxI L id + 1) := by
  obtain ⟨h1, h2⟩ := idx_lt h
  refine keep_one h1 (by unfold byI; rw [h2]; simp) (fun q hq hne => ?_)
  have hd : (L.getD q mb0).i ≠ id := fun e => by
    rw [← h2] at e
    rcases Nat.lt_or_gt_of_ne hne with h3 | h3
    · have := (asc_at ha h3 h1).1; omega
    · have := (asc_at ha h3 hq).1; omega
  unfold byI
  simpa using hd
theorem mb_sub2 {w : World} {B g t : Nat} {L : List Mb} (hg : g < B) (h : ∀ j u, (mbCells L)[j]? = some u → w.cell? ⟨g, j, none⟩ = some u) : Sl w B (some ⟨g, t * 3, none⟩) (mbCells (L.drop t)) := by
  rw [mbCells_drop]
  exact .inr ⟨g, t * 3, rfl, hg, fun j u hu => by rw [List.getElem?_drop] at hu; exact h _ _ hu⟩
set_option maxRecDepth 100000 in
set_option maxHeartbeats 8000000 in
theorem rleave_walk (K : Nat) (x : Int) (G : Gr) (g : Nat) (a : Option Addr) (c : Nat) (b : Option Addr) (d : Nat) (w : World) (hK : K ≤ 800) (hok : GOk G K) (ha : Asc G.L) (h : RfW w g G a c b d) :
    Calls Try.prog 33 #[.pointer (some ⟨g, 0, none⟩), .int .i64 x] w (RfP g a b (leaveG G x) (.int .i64 (leaveE G x)) w) := by
  obtain ⟨i0, hi, hz0, hz1, hz2⟩ := info_parts info_mb
  have hlN := hok.len
  have hg1 := hok.g1
  have KM := Lib.hid (rat_walk x G g a c b d w (by omega) h)
  have HG := Lib.hid h
  have HOk := Lib.hid (dropG_ok (byI x) hok)
  unfold leaveG leaveE
  clear hok h
  by_cases hh : hasI G.L x = true
  · simp only [if_pos hh]
    rw [atI_yes hh] at KM
    obtain ⟨hj, _⟩ := idx_lt hh
    have HL1 := leave_one ha hh
    generalize idxI G.L x = j at *
    clear hh ha
    by_cases hy : G.g = 1099511627776
    · simp only [if_pos hy]
      have hq : 1099511627776 ≤ G.g := by omega
      go_enter Try.func33, Try.ntmps33
      go_wp2_with fail
      refine KM.out.mono ?_
      rintro e w1 ⟨rfl, b1⟩
      have H1 := HG.out.keep b1
      have n2 := H1.seven.2.2.1
      have hgw := H1.lt
      have HF := Lib.hid (RfP.same (.int .i64 6) HG.out b1)
      generalize G.g = gg at *
      clear KM hy H1
      go_wp2_with fail
      go_ret
      exact ⟨rfl, by have := HF.out.2; simpa using this⟩
    · simp only [if_neg hy, if_true]
      have hq : ¬ 1099511627776 ≤ G.g := by omega
      have HY := Lib.hid hy
      have HLV := Lib.hid HL1
      obtain ⟨N, hN⟩ : ∃ N, G.L.length = N := ⟨_, rfl⟩
      have HN := Lib.hid hN
      rw [hN] at hj hlN
      clear hy HL1 hN
      go_enter Try.func33, Try.ntmps33
      go_wp2_with fail
      refine KM.out.mono ?_
      rintro e w1 ⟨rfl, b1⟩
      have H1 := HG.out.keep b1
      have n2 := H1.seven.2.2.1
      have n5 := H1.seven.2.2.2.2.2.1
      rw [HN.out] at n5
      have hrow := H1.rowL
      rw [HN.out] at hrow
      obtain ⟨ga, rfl, _, hgl, _, hcc⟩ := ownN_at hrow (by omega)
      have hcN := (ownN_cap hrow).2
      have hgw := H1.lt
      have HCC := Lib.hid hcc
      have HB1 := Lib.hid b1
      have hjN : (j : Int) < (N : Int) := by omega
      have hj0 : 0 ≤ (j : Int) := by omega
      have hjc : (j : Int) ≤ (c : Int) := by omega
      have hjN2 : (j : Int) ≤ (N : Int) := by omega
      have S1 : Sl w1 w1.heap.size (some ⟨ga, 0, none⟩) (mbCells (G.L.take j)) := by
        rw [mbCells_take]
        exact .inr ⟨ga, 0, rfl, hgl, fun q u hu => by
          rw [List.getElem?_take] at hu
          split at hu
          · rw [Nat.zero_add]; exact hcc _ _ hu
          · cases hu⟩
      have HS1 := Lib.hid S1
      have hl1 : (mbCells (G.L.take j)).length = j * 3 := by rw [mbCells_length, List.length_take, HN.out]; congr 1; omega
      have HLL := Lib.hid hl1
      clear hcc hrow H1 S1 hl1 KM
      have hown0 : w1.ownsRow w1.heap.size 49 3 (.slice none 0 0) 0 [] := World.ownsRow_nil _ _ _ _
      go_upto_region 7 with fail
      clear n2
      go_wp2_with (at_builtin; refine wp_app rfl _ _ 38 rfl w1.heap.size 49 i0 (.agg #[.int .i64 0, .int .i64 0, .int .i64 0]) 3 24 Try.underlying38 hi hz0 hz1 hz2 rfl (by decide) _ _ _ rfl hown0 _ _ _ rfl (mbCells (G.L.take j)) w1.heap.size w1 ?dd ?ds (fun h => by cases h) (mbCells_one _) ?da ?db (Nat.le_refl _) (Below.refl _ _) ?_)
      case dd => simpa using HLL.out
      case ds => exact HS1.out
      case da => unfold maxLen; omega
      case db => omega
      intro a7 c7 w7 o7 b7
      have o7' : w7.ownsRow w1.heap.size 49 3 (.slice a7 j c7) j (mbCells (G.L.take j)) := by simpa using o7
      have HO7 := Lib.hid o7'
      have b17 := b1.trans (b7.mono b1.size)
      have H7 := HG.out.keep b17
      have n5' := H7.seven.2.2.2.2.2.1
      rw [HN.out] at n5'
      have hg7 := H7.lt
      have hz7 := b7.size
      have hgl7 : ga < w7.heap.size := by omega
      have HC7 := Lib.hid (fun q u hu => (b7.cell (p := ⟨ga, q, none⟩) hgl).trans (HCC.out q u hu))
      have HB7 := Lib.hid b7
      have HB17 := Lib.hid b17
      obtain ⟨t, ht⟩ : ∃ t, j + 1 = t := ⟨_, rfl⟩
      have hwj : IntKind.i64.wrap ((j : Int) + 1) = (t : Int) := by rw [IntWalk.i64_in _ (by omega)]; omega
      have htN : (t : Int) ≤ (N : Int) := by omega
      have ht0 : 0 ≤ (t : Int) := by omega
      have hcNI : (N : Int) ≤ (c : Int) := by omega
      rw [ht] at HLV
      have hdl : (mbCells (G.L.drop t)).length = (N - t) * 3 := by rw [mbCells_length, List.length_drop, HN.out]
      have HDL := Lib.hid hdl
      have hjt : j + (N - t) + 1 = N := by omega
      have HJT := Lib.hid hjt
      clear o7 o7' b7 b17 H7 n5 hgl hgw HS1 HLL HCC hdl
      by_cases htc : t = c
      · have hNt : N = t := by omega
        have hdr : G.L.drop t = [] := List.drop_eq_nil_of_le (by rw [HN.out]; omega)
        have HDR := Lib.hid hdr
        subst htc
        subst hNt
        clear hdr hcNI htN hcN hjc hjN2 hjN hj ht hjt
        go_wp2_with (at_builtin; refine wp_app rfl _ _ 38 rfl w1.heap.size 49 i0 (.agg #[.int .i64 0, .int .i64 0, .int .i64 0]) 3 24 Try.underlying38 hi hz0 hz1 hz2 rfl (by decide) _ _ _ rfl HO7.out _ _ _ rfl [] w1.heap.size w1 ?dd (Sl.nil _ _ _) (fun h => by cases h) (fun u hu => by cases hu) ?da ?db ?dc HB7.out ?_)
        case dd => simp
        case da => unfold maxLen; have := HJT.out; omega
        case db => have := HJT.out; omega
        case dc => exact hz7
        intro a8 c8 w8 o8 b8
        have o9 : w8.ownsRow w1.heap.size 49 3 (.slice a8 (keepP (byI x) G.L).length c8) (keepP (byI x) G.L).length (mbCells (keepP (byI x) G.L)) := by
          have hl : (keepP (byI x) G.L).length = j := by rw [HLV.out, HDR.out, List.append_nil, List.length_take, HN.out]; have := HJT.out; omega
          rw [hl, HLV.out, HDR.out, List.append_nil]
          simpa using o8
        have hlk : Hid ((keepP (byI x) G.L).length = j) := Lib.hid (by rw [HLV.out, HDR.out, List.append_nil, List.length_take, HN.out]; have := HJT.out; omega)
        clear o8 hwj n5' hg7 hgl7
        have b18 := HB1.out.trans (b8.mono HB1.out.size)
        have hz1 : w.heap.size ≤ w1.heap.size := HB1.out.size
        obtain ⟨D, hD⟩ : ∃ D, keepP (byI x) G.L = D := ⟨_, rfl⟩
        have HDe := Lib.hid hD
        have HOkD := HOk.out
        rw [hD] at o9 HOkD hlk ⊢
        have HOD := Lib.hid HOkD
        have H8 := HG.out.keep b18
        have k5 := H8.seven.2.2.2.2.2.1
        have z5 := H8.seven.2.2.2.2.2.2.2 5
        have hg8 := H8.lt
        obtain ⟨H9, M9⟩ := rf_put HG.out b18 (ownN_base o9 hz1)
        obtain ⟨n9, hn9⟩ : ∃ n9, D.length = n9 := ⟨_, rfl⟩
        rw [hn9] at H9 M9
        have HL9 := Lib.hid (hn9.symm.trans hlk.out)
        rw [← HL9.out] at *
        clear H8 HO7 HB7 HC7 HDL o9 b8 b18 hn9 HOk HOkD
        go_upto_region 10 with fail
        obtain ⟨w9, hw9⟩ : ∃ w9, w9 = w8.setCell ⟨g, 5, none⟩ (.slice a8 n9 c8) := ⟨_, rfl⟩
        rw [← hw9] at H9 M9 ⊢
        have KB := Lib.hid (rbeg_walk K { G with L := D } g _ c8 b d w9 (by omega) HOD.out HY.out H9)
        have HM9 := Lib.hid M9
        clear hw9 k5 z5 hg8 H9 M9
        go_wp2_with fail
        refine KB.out.mono ?_
        rintro e w10 ⟨rfl, a10, c10, b10, d10, H10, M10⟩
        have HH10 := Lib.hid H10
        have HM10 := Lib.hid (HM9.out.trans M10)
        clear H10 M10
        go_wp2_with fail
        go_ret
        exact ⟨rfl, _, _, _, _, by rw [HDe.out]; exact HH10.out, HM10.out⟩
      · have htc2 : t < c := by omega
        have hds : Sl w7 w7.heap.size (some ⟨ga, t * 3, none⟩) (mbCells (G.L.drop t)) := mb_sub2 hgl7 HC7.out
        have HDS := Lib.hid hds
        clear hcN hcNI htc hjc hjN2 hds hjt
        go_wp2_with (at_builtin; refine wp_app rfl _ _ 38 rfl w1.heap.size 49 i0 (.agg #[.int .i64 0, .int .i64 0, .int .i64 0]) 3 24 Try.underlying38 hi hz0 hz1 hz2 rfl (by decide) _ _ _ rfl HO7.out _ _ _ rfl (mbCells (G.L.drop t)) w7.heap.size w1 ?dd ?ds (fun h => by cases h) (mbCells_one _) ?da ?db ?dc HB7.out ?_)
        case dd => simpa using HDL.out
        case ds => simpa using HDS.out
        case da => unfold maxLen; have := HJT.out; omega
        case db => have := HJT.out; omega
        case dc => exact hz7
        intro a8 c8 w8 o8 b8
        have hlk : Hid ((keepP (byI x) G.L).length = j + (N - t)) := Lib.hid (by rw [HLV.out, List.length_append, List.length_take, List.length_drop, HN.out]; have := HJT.out; omega)
        have o9 : w8.ownsRow w1.heap.size 49 3 (.slice a8 (keepP (byI x) G.L).length c8) (keepP (byI x) G.L).length (mbCells (keepP (byI x) G.L)) := by
          rw [hlk.out, HLV.out, mbCells_append]
          simpa using o8
        clear o8 hwj n5' hg7 hgl7
        have b18 := HB1.out.trans (b8.mono HB1.out.size)
        have hz1 : w.heap.size ≤ w1.heap.size := HB1.out.size
        obtain ⟨D, hD⟩ : ∃ D, keepP (byI x) G.L = D := ⟨_, rfl⟩
        have HDe := Lib.hid hD
        have HOkD := HOk.out
        rw [hD] at o9 HOkD hlk ⊢
        have HOD := Lib.hid HOkD
        have H8 := HG.out.keep b18
        have k5 := H8.seven.2.2.2.2.2.1
        have z5 := H8.seven.2.2.2.2.2.2.2 5
        have hg8 := H8.lt
        obtain ⟨H9, M9⟩ := rf_put HG.out b18 (ownN_base o9 hz1)
        obtain ⟨n9, hn9⟩ : ∃ n9, D.length = n9 := ⟨_, rfl⟩
        rw [hn9] at H9 M9
        have HL9 := Lib.hid (hn9.symm.trans hlk.out)
        rw [← HL9.out] at *
        clear H8 HO7 HB7 HC7 HDL o9 b8 b18 hn9 HOk HOkD
        go_upto_region 10 with fail
        obtain ⟨w9, hw9⟩ : ∃ w9, w9 = w8.setCell ⟨g, 5, none⟩ (.slice a8 n9 c8) := ⟨_, rfl⟩
        rw [← hw9] at H9 M9 ⊢
        have KB := Lib.hid (rbeg_walk K { G with L := D } g _ c8 b d w9 (by omega) HOD.out HY.out H9)
        have HM9 := Lib.hid M9
        clear hw9 k5 z5 hg8 H9 M9
        go_wp2_with fail
        refine KB.out.mono ?_
        rintro e w10 ⟨rfl, a10, c10, b10, d10, H10, M10⟩
        have HH10 := Lib.hid H10
        have HM10 := Lib.hid (HM9.out.trans M10)
        clear H10 M10
        go_wp2_with fail
        go_ret
        exact ⟨rfl, _, _, _, _, by rw [HDe.out]; exact HH10.out, HM10.out⟩
  · simp only [if_neg hh]
    rw [atI_no hh] at KM
    clear hh
    go_enter Try.func33, Try.ntmps33
    go_wp2_with fail
    refine KM.out.mono ?_
    rintro e w1 ⟨rfl, b1⟩
    have HF := Lib.hid (RfP.same (.int .i64 11) HG.out b1)
    clear KM
    go_wp2_with fail
    go_ret
    exact ⟨rfl, by have := HF.out.2; simpa using this⟩

set_option maxRecDepth 100000 in
set_option maxHeartbeats 4000000 in
theorem rnew_bad (parts : Int) (st : Bool) (gen nxt : Int) (w : World) (h : newOk parts gen nxt = false) :
    Calls Try.prog 10 #[.int .i64 parts, .bool st, .int .i64 gen, .int .i64 nxt] w (NewBad w) := by
  have h' : parts < 1 ∨ (¬ parts < 1 ∧ 4 < parts) ∨ (¬ parts < 1 ∧ ¬ 4 < parts ∧ gen < 0) ∨ (¬ parts < 1 ∧ ¬ 4 < parts ∧ ¬ gen < 0 ∧ 1099511627776 < gen) ∨ (¬ parts < 1 ∧ ¬ 4 < parts ∧ ¬ gen < 0 ∧ ¬ 1099511627776 < gen ∧ nxt < 1) ∨ (¬ parts < 1 ∧ ¬ 4 < parts ∧ ¬ gen < 0 ∧ ¬ 1099511627776 < gen ∧ ¬ nxt < 1 ∧ 1099511627776 < nxt) := by
    unfold newOk at h
    simp at h
    omega
  clear h
  rcases h' with h1 | ⟨h1, h2⟩ | ⟨h1, h2, h3⟩ | ⟨h1, h2, h3, h4⟩ | ⟨h1, h2, h3, h4, h5⟩ | ⟨h1, h2, h3, h4, h5, h6⟩ <;>
  · go_enter Try.func10, Try.ntmps10
    go_wp2_with fail
    go_ret2
    exact ⟨rfl, Below.refl _ _⟩
def RNewPost (st : Bool) (parts : Nat) (gen nxt : Int) (w : World) (e : Ending) (w' : World) : Prop := ∃ g b d, e = .returned (.tuple #[.pointer (some ⟨g, 0, none⟩), .int .i64 0]) ∧ RfW w' g (newG parts st gen nxt) none 0 b d ∧ (∀ k, SF g none b k → w.heap.size ≤ k) ∧ Below w.heap.size w w'
theorem i64s_rep (n : Nat) : i64s (List.replicate (n + 1) 0) = i64s (List.replicate n 0) ++ [.int .i64 0] := by
  rw [List.replicate_succ', i64s_snoc]
set_option maxRecDepth 100000 in
set_option maxHeartbeats 8000000 in
theorem rnew_walk (parts : Nat) (st : Bool) (gen nxt : Int) (w : World) (h : newOk parts gen nxt = true) :
    Calls Try.prog 10 #[.int .i64 parts, .bool st, .int .i64 gen, .int .i64 nxt] w (RNewPost st parts gen nxt w) := by
  obtain ⟨i0, hi, hz0, hz1, hz2⟩ := info_parts info_i64
  unfold newOk at h
  simp at h
  obtain ⟨⟨⟨h1, h2⟩, h3, h4⟩, h5, h6⟩ := h
  have q1 : ¬ (parts : Int) < 1 := by omega
  have q2 : ¬ 4 < (parts : Int) := by omega
  have q3 : ¬ gen < 0 := by omega
  have q4 : ¬ 1099511627776 < gen := by omega
  have q5 : ¬ nxt < 1 := by omega
  have q6 : ¬ 1099511627776 < nxt := by omega
  have hal := balloc w (.cells #[.int .i64 parts, .bool st, .int .i64 gen, .int .i64 nxt, .int .i64 0, .slice none 0 0, .slice none 0 0] 41)
  have hW := Whole.new w 41 #[.int .i64 parts, .bool st, .int .i64 gen, .int .i64 nxt, .int .i64 0, .slice none 0 0, .slice none 0 0]
  clear h1 h3 h4 h5 h6
  go_enter Try.func10, Try.ntmps10
  go_upto_region 4 with fail
  obtain ⟨w1, hw1⟩ : ∃ w1, w1 = w.alloc (.cells #[.int .i64 parts, .bool st, .int .i64 gen, .int .i64 nxt, .int .i64 0, .slice none 0 0, .slice none 0 0] 41) := ⟨_, rfl⟩
  rw [← hw1] at hal hW ⊢
  clear hw1 q1 q2 q3 q4 q5 q6
  have hg1 : w.heap.size < w1.heap.size := hW.lt
  have hz := hal.size
  have HW := Lib.hid hW
  go_wp2_with fail
  go_loopw [11] (fun I wr => ∃ (k : Nat) (b : Option Addr) (d : Nat), k ≤ parts ∧ I = .int .i64 k ∧ Whole wr w.heap.size 41 #[.int .i64 parts, .bool st, .int .i64 gen, .int .i64 nxt, .int .i64 0, .slice none 0 0, .slice b k d] ∧ wr.ownsRow w1.heap.size 3 1 (.slice b k d) k (i64s (List.replicate k 0)) ∧ Below w.heap.size w wr ∧ w1.heap.size ≤ wr.heap.size) (fun I _ => parts - (intOf I).toNat)
  case atStart => exact ⟨0, none, 0, by omega, rfl, hW, by simpa [i64s] using World.ownsRow_nil _ _ _ _, hal, Nat.le_refl _⟩
  case round =>
    obtain ⟨k, b, d, hk, rfl, hWr, hown, hb, hsz⟩ := hrel
    clear hW
    by_cases hlt : k < parts
    · have hlt2 : (k : Int) < (parts : Int) := by omega
      have m6 := hWr.cell 6
      simp only [List.getElem?_toArray, List.getElem?_cons_zero, List.getElem?_cons_succ] at m6
      have hgr := hWr.lt
      have HWr := Lib.hid hWr
      clear hWr
      go_wp2_with (at_builtin; refine wpList_append_own _ rfl _ _ 39 rfl w1.heap.size 3 i0 (.int .i64 0) 1 8 Try.underlying39 hi hz0 hz1 hz2 rfl (by decide) _ _ _ rfl (hown.alloc _) ⟨wr.heap.size, 0, none⟩ 1 1 [.int .i64 0] rfl rfl ?c1 ?c2 ?c3 ?c4 ?c5 ?_)
      case c1 =>
        intro j u hj
        match j, hj with
        | 0, hj => simp at hj; subst hj; simp [Addr.add]
      case c2 => intro u hu; simp at hu; subst hu; rfl
      case c3 => unfold maxLen; omega
      case c4 => omega
      case c5 => exact Nat.le_trans hsz (by simp)
      intro v' w3 hown' hgrow _
      have hb3 := ((Below.refl w1.heap.size wr).alloc (by omega) (.cells #[.int .i64 0] 3)).grown hgrow (by simp; omega) (fun k hk => (hown.lt k hk).1)
      obtain ⟨b7, d7, rfl⟩ := ownN_shape hown'
      have hown3 : w3.ownsRow w1.heap.size 3 1 (.slice b7 (k + 1) d7) (k + 1) (i64s (List.replicate (k + 1) 0)) := by
        rw [i64s_rep]; simpa using hown'
      have W3 : Whole w3 w.heap.size _ _ := (hb3.block _ hg1).trans HWr.out
      have k6 := W3.cell 6
      have z6 := W3.frozen 6
      simp only [List.getElem?_toArray, List.getElem?_cons_zero, List.getElem?_cons_succ] at k6
      have W4 := W3.set 6 (.slice b7 (k + 1) d7)
      simp only [List.setIfInBounds_toArray, List.set_cons_zero, List.set_cons_succ] at W4
      have own4 := own_set (g := w.heap.size) hown3 (fun x hx e => by have := (own_low hown3 x hx).1; omega) 6 (.slice b7 (k + 1) d7)
      have B4 := (hb.trans (hb3.mono (by omega))).setCell (p := ⟨w.heap.size, 6, none⟩) (Nat.le_refl _) (.slice b7 (k + 1) d7)
      have S4 : w1.heap.size ≤ (w3.setCell ⟨w.heap.size, 6, none⟩ (.slice b7 (k + 1) d7)).heap.size := by simp; have := hb3.size; omega
      have HW4 := Lib.hid W4
      have HO4 := Lib.hid own4
      have HB4 := Lib.hid B4
      have HS4 := Lib.hid S4
      clear hown' hgrow hown hown3 m6 W3 W4 own4 B4 S4 hb3
      go_wp2_with fail
      go_roundw
      case rel => exact ⟨k + 1, b7, d7, by omega, by go_num, HW4.out, HO4.out, HB4.out, HS4.out⟩
      case measure => simp [intOf]; omega
    · obtain rfl : k = parts := by omega
      have HO := Lib.hid hown
      have HWr := Lib.hid hWr
      clear hown hWr
      go_wp2_with fail
      go_ret2
      refine ⟨w.heap.size, b, d, rfl, ⟨?_, World.ownsRow_nil _ _ _ _, ?_⟩, ?_, hb⟩
      · have := HWr.out
        simpa [newG] using this
      · have := ownN_base HO.out (Nat.zero_le _)
        simpa [newG] using this
      · rintro q (rfl | ⟨x, hx, rfl⟩ | ⟨x, hx, rfl⟩)
        · exact Nat.le_refl _
        · cases hx
        · have := (own_low HO.out x hx).1; omega
end Go.Proofs.Ytocmhmfaehnliaa
