/- The walks of Group.Leave and Group.Tick. -/
import Derived.Test.YtocmhmfaehnliaaGrOp
namespace Go.Proofs.Ytocmhmfaehnliaa
open Go.RowKit Vm
set_option linter.unusedVariables false
set_option linter.unusedSimpArgs false

theorem gleave_nil (x : Int) (w : World) : Calls Try.prog 27 #[.pointer none, .int .i64 x] w fun e w' => e = .returned (.int .i64 11) ∧ Below w.heap.size w w' := by
  have KM := Lib.hid (fun w => gmem_nil x w)
  have hal := balloc w (.cells #[.int .i64 x] 3)
  go_enter Try.func27, Try.ntmps27
  go_wp2_with fail
  refine (KM.out _).mono ?_
  rintro e w1 ⟨rfl, b1⟩
  have b2 := gtrans hal b1
  go_wp2_with fail
  go_ret
  exact ⟨rfl, b2⟩
theorem gtick_nil (w : World) : Calls Try.prog 28 #[.pointer none] w fun e w' => e = .returned (.bool false) ∧ Below w.heap.size w w' := by
  have hal := balloc w (.cells #[.pointer none] 25)
  go_enter Try.func28, Try.ntmps28
  go_wp2_with fail
  go_ret
  exact ⟨rfl, hal⟩
set_option maxRecDepth 100000 in
set_option maxHeartbeats 8000000 in
theorem gleave_walk (K : Nat) (x : Int) (G : Gr) (g : Nat) (a : Option Addr) (c : Nat) (b : Option Addr) (d : Nat) (w : World) (hK : K ≤ 800) (hok : GOk G K) (h : GrW w g G a c b d) :
    Calls Try.prog 27 #[.pointer (some ⟨g, 0, none⟩), .int .i64 x] w (GrP g a b (leaveG G x) (.int .i64 (leaveE G x)) w) := by
  have hlN := hok.len
  have hal := balloc w (.cells #[.int .i64 x] 3)
  have hpx := Whole.new w 3 #[.int .i64 x]
  have H1 := h.keep hal
  have M1 := Mvs.below (SF g a b) hal
  have HLv := Lib.hid (fun k hk => (h.live k hk : k < w.heap.size))
  have KM := Lib.hid (fun w hG => gmem_walk x G g a c b d w (by omega) hG)
  unfold MemP at KM
  have KR := Lib.hid (fun (w1 : World) (hC : CapL w1 w.heap.size g x) (hG : GrW w1 g G a c b d) => remL_walk x G g w.heap.size a c b d w1 (by omega) hG hC (fun y hy e => by have := HLv.out _ (.inr (.inl ⟨y, hy, rfl⟩)); omega))
  have HOk := Lib.hid (dropG_ok (byI x) hok)
  unfold leaveG leaveE
  clear hok h
  by_cases hh : hasI G.L x = true
  · simp only [if_pos hh]
    by_cases hy : G.g = 1099511627776
    · simp only [if_pos hy]
      have hq : (G.g == 1099511627776) = true := by simpa using hy
      go_enter Try.func27, Try.ntmps27
      go_upto_region 1 with fail
      obtain ⟨w1, hw1⟩ : ∃ w1, w1 = w.alloc (.cells #[.int .i64 x] 3) := ⟨_, rfl⟩
      rw [← hw1] at hal hpx H1 M1 ⊢
      clear hw1 KR
      have p0 := hpx.cell 0
      simp only [List.getElem?_toArray, List.getElem?_cons_zero] at p0
      have KM1 := Lib.hid (KM.out w1 H1)
      clear KM
      go_wp2_with fail
      refine KM1.out.mono ?_
      rintro e w2 ⟨⟨_, ga, rfl, rfl⟩ | ⟨hh2, rfl⟩, b2⟩
      rotate_left
      · exfalso; rw [hh] at hh2; cases hh2
      have H2 := H1.keep b2
      have m1 := H2.six.2.1
      have HF := Lib.hid (M1.trans (Mvs.below _ b2))
      have HH := Lib.hid H2
      generalize idxI G.L x = j at *
      generalize G.g = gg at *
      clear KM1 H1 H2 hy hh p0
      go_wp2_with fail
      go_ret
      exact ⟨rfl, _, _, _, _, by simpa using HH.out, HF.out⟩
    · simp only [if_neg hy, if_true]
      have hq : (G.g == 1099511627776) = false := by simpa using hy
      go_enter Try.func27, Try.ntmps27
      go_upto_region 1 with fail
      obtain ⟨w1, hw1⟩ : ∃ w1, w1 = w.alloc (.cells #[.int .i64 x] 3) := ⟨_, rfl⟩
      rw [← hw1] at hal hpx H1 M1 ⊢
      clear hw1
      have p0 := hpx.cell 0
      simp only [List.getElem?_toArray, List.getElem?_cons_zero] at p0
      have KM1 := Lib.hid (KM.out w1 H1)
      clear KM
      go_wp2_with fail
      refine KM1.out.mono ?_
      rintro e w2 ⟨⟨_, ga, rfl, rfl⟩ | ⟨hh2, rfl⟩, b2⟩
      rotate_left
      · exfalso; rw [hh] at hh2; cases hh2
      have H2 := H1.keep b2
      have m1 := H2.six.2.1
      have P2 := (hpx.keep b2).cell 0
      simp only [List.getElem?_toArray, List.getElem?_cons_zero] at P2
      have KR1 := Lib.hid (KR.out w2 ⟨P2, H2.lt⟩ H2)
      have HY := Lib.hid hy
      have M2 := Lib.hid (M1.trans (Mvs.below _ b2))
      have hgl2 := H2.lt
      generalize idxI G.L x = j at *
      clear KM1 KR H1 H2 hy hh p0 M1
      go_wp2_with fail
      refine KR1.out.mono ?_
      rintro e w3 ⟨rfl, c3, H3, M3⟩
      have KB := Lib.hid (beg_walk K { G with L := keepP (byI x) G.L } g _ c3 b d w3 (by omega) HOk.out HY.out H3)
      have M4 := Lib.hid (M2.out.trans M3)
      clear KR1 H3 M3 m1 P2 hq
      go_wp2_with fail
      refine KB.out.mono ?_
      rintro e w8 ⟨rfl, b8, d8, H8, M8⟩
      have HH := Lib.hid H8
      have HM := Lib.hid (M4.out.trans M8)
      clear H8 M8
      go_wp2_with fail
      go_ret
      exact ⟨rfl, _, _, _, _, HH.out, HM.out⟩
  · simp only [if_neg hh]
    go_enter Try.func27, Try.ntmps27
    go_upto_region 1 with fail
    obtain ⟨w1, hw1⟩ : ∃ w1, w1 = w.alloc (.cells #[.int .i64 x] 3) := ⟨_, rfl⟩
    rw [← hw1] at hal hpx H1 M1 ⊢
    clear hw1 KR
    have p0 := hpx.cell 0
    simp only [List.getElem?_toArray, List.getElem?_cons_zero] at p0
    have KM1 := Lib.hid (KM.out w1 H1)
    clear KM
    go_wp2_with fail
    refine KM1.out.mono ?_
    rintro e w2 ⟨⟨hh2, ga, rfl, rfl⟩ | ⟨_, rfl⟩, b2⟩
    · exact absurd hh2 hh
    have HF := Lib.hid (M1.trans (Mvs.below _ b2))
    have HH := Lib.hid (H1.keep b2)
    clear KM1 H1 hh p0
    go_wp2_with fail
    go_ret
    exact ⟨rfl, _, _, _, _, by simpa using HH.out, HF.out⟩
theorem tickG_max {G : Gr} (h : G.g = 1099511627776) : tickG G = tickS G ∧ tickB G = false := by
  unfold tickG tickB
  rw [if_pos h]
  exact ⟨rfl, by simp [h]⟩
theorem tickG_same {G : Gr} (h : G.g ≠ 1099511627776) (h2 : (tickL G).L.length = G.L.length) : tickG G = tickL G ∧ tickB G = false := by
  unfold tickG tickB
  rw [if_neg h, if_pos h2]
  exact ⟨rfl, by simp [h2]⟩
theorem tickG_turn {G : Gr} (h : G.g ≠ 1099511627776) (h2 : (tickL G).L.length ≠ G.L.length) : tickG G = begG (tickL G) ∧ tickB G = true := by
  unfold tickG tickB
  rw [if_neg h, if_neg h2]
  refine ⟨rfl, ?_⟩
  rw [beq_eq_false_iff_ne.2 h, beq_eq_false_iff_ne.2 h2]
  rfl
set_option maxRecDepth 100000 in
set_option maxHeartbeats 8000000 in
theorem gtick_walk (K : Nat) (G : Gr) (g : Nat) (a : Option Addr) (c : Nat) (b : Option Addr) (d : Nat) (w : World) (hK : K ≤ 800) (hok : GOk G K) (h : GrW w g G a c b d) :
    Calls Try.prog 28 #[.pointer (some ⟨g, 0, none⟩)] w (GrP g a b (tickG G) (.bool (tickB G)) w) := by
  have hlN := hok.len
  have ht0 := hok.t0
  have ht1 := hok.t1
  have HOk := Lib.hid (tickL_ok hok)
  have hal := balloc w (.cells #[.pointer (some ⟨g, 0, none⟩)] 25)
  have hpx := Whole.new w 25 #[.pointer (some ⟨g, 0, none⟩)]
  have H1 := h.keep hal
  have M1 := Mvs.below (SF g a b) hal
  have HLv := Lib.hid (fun k hk => (h.live k hk : k < w.heap.size))
  have hpg : w.heap.size ≠ g := fun e => by have := h.lt; omega
  have hwt : IntKind.i64.wrap (G.t + 1) = G.t + 1 := IntWalk.i64_in _ (by omega)
  clear hok h
  go_enter Try.func28, Try.ntmps28
  go_upto_region 1 with fail
  obtain ⟨w1, hw1⟩ : ∃ w1, w1 = w.alloc (.cells #[.pointer (some ⟨g, 0, none⟩)] 25) := ⟨_, rfl⟩
  rw [← hw1] at hal hpx H1 M1 ⊢
  clear hw1
  have p0 := hpx.cell 0
  simp only [List.getElem?_toArray, List.getElem?_cons_zero] at p0
  obtain ⟨m0, m1, m2, m3, m4, m5, hfz⟩ := H1.six
  have f3 := hfz 3
  have H2 := H1.setT (G.t + 1)
  have M2 := M1.setG (.inl rfl) 3 (.int .i64 (G.t + 1))
  have P2 := hpx.far g 3 (.int .i64 (G.t + 1)) hpg
  clear hfz m0 m1 m2 m4 m5 H1 M1
  go_upto_region 4 with fail
  obtain ⟨w2, hw2⟩ : ∃ w2, w2 = w1.setCell ⟨g, 3, none⟩ (.int .i64 (G.t + 1)) := ⟨_, rfl⟩
  rw [← hw2] at H2 M2 P2 ⊢
  clear hw2 p0 hpx m3 f3 hwt
  have p0 := P2.cell 0
  simp only [List.getElem?_toArray, List.getElem?_cons_zero] at p0
  obtain ⟨m0, m1, m2, m3, m4, m5, hfz⟩ := H2.six
  have hgl := H2.lt
  simp only at m1 m3 m4
  by_cases hmax : G.g = 1099511627776
  · have HT := Lib.hid (tickG_max hmax)
    have hq : (G.g == 1099511627776) = true := by simpa using hmax
    have HGG : Hid (GrW w2 g (tickS G) a c b d) := Lib.hid H2
    have HM := Lib.hid M2
    clear H2 M2 hmax m0 m2 m3 m5 hfz
    go_wp2_with fail
    go_ret
    exact ⟨by rw [HT.out.2]; rfl, a, c, b, d, by rw [HT.out.1]; exact HGG.out, HM.out⟩
  · have hq : (G.g == 1099511627776) = false := by simpa using hmax
    have KR := Lib.hid (remT_walk (G.t + 1) { G with t := G.t + 1 } g w.heap.size a c b d w2 (by show G.L.length ≤ 1000; omega) H2 ⟨p0, m3⟩ (fun y hy e => by have := HLv.out _ (.inr (.inl ⟨y, hy, rfl⟩)); omega))
    have HX := Lib.hid hmax
    clear hmax m0 m2 m3 m5 hfz
    have hpl := P2.lt
    obtain ⟨n, hn⟩ : ∃ n, G.L.length = n := ⟨_, rfl⟩
    have HN := Lib.hid hn
    rw [hn] at m4
    clear hn H2
    go_wp2_with fail
    refine KR.out.mono ?_
    rintro e w3 ⟨rfl, c3, H3, M3⟩
    have hD : tickL G = { G with t := G.t + 1, L := keepP (byT (G.t + 1)) G.L } := rfl
    have H3' : GrW w3 g (tickL G) a c3 b d := H3
    have P3 : Whole w3 w.heap.size _ _ := (M3.2.1 _ hpl (fun hS => by have := HLv.out _ hS; omega)).trans P2
    have q0 := P3.cell 0
    simp only [List.getElem?_toArray, List.getElem?_cons_zero] at q0
    have m4' := H3'.six.2.2.2.2.1
    have hgl3 := H3'.lt
    have HM := Lib.hid (M2.trans M3)
    obtain ⟨nl, hnl⟩ : ∃ nl, (tickL G).L.length = nl := ⟨_, rfl⟩
    have HNL := Lib.hid hnl
    rw [hnl] at m4'
    have HH := Lib.hid H3'
    clear hD H3 H3' KR hnl M2 M3 p0 m1 m4 P2
    by_cases he : nl = n
    · have hqe : ((nl : Int) == (n : Int)) = true := by simp [he]
      have HT := tickG_same HX.out (by rw [HNL.out, HN.out, he])
      have HT := Lib.hid HT
      clear he
      go_wp2_with fail
      go_ret
      exact ⟨by rw [HT.out.2]; rfl, _, _, _, _, by rw [HT.out.1]; exact HH.out, HM.out⟩
    · have hqe : ((nl : Int) == (n : Int)) = false := beq_eq_false_iff_ne.2 (by omega)
      have HT := tickG_turn HX.out (by rw [HNL.out, HN.out]; exact he)
      have HT := Lib.hid HT
      have KB := Lib.hid (beg_walk (K + 1) (tickL G) g _ c3 b d w3 (by omega) HOk.out HX.out HH.out)
      clear he
      go_wp2_with fail
      refine KB.out.mono ?_
      rintro e w8 ⟨rfl, b8, d8, H8, M8⟩
      have HH8 := Lib.hid H8
      have HM8 := Lib.hid (HM.out.trans M8)
      clear H8 M8
      go_wp2_with fail
      go_ret
      exact ⟨by rw [HT.out.2]; rfl, _, _, _, _, by rw [HT.out.1]; exact HH8.out, HM8.out⟩
end Go.Proofs.Ytocmhmfaehnliaa
