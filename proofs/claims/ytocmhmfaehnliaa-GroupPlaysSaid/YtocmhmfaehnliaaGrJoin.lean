/- The walk of Group.Join. -/
import Derived.Test.YtocmhmfaehnliaaGrOp
import Derived.Deep.AppendLies
namespace Go.Proofs.Ytocmhmfaehnliaa
open Go.RowKit Vm
set_option linter.unusedVariables false
set_option linter.unusedSimpArgs false

def joinV (G : Gr) (x : Int) : Value := .tuple #[.int .i64 (joinI G x), .int .i64 (joinN G x), .int .i64 (joinE G x)]
theorem g3_alloc {w : World} {g : Nat} {v4 : Value} (o : Obj) (h1 : w.cell? ⟨g, 4, none⟩ = some v4) (f1 : w.frozen? ⟨g, 4, none⟩ = false) (hg : g < w.heap.size) :
    (w.alloc o).drew.cell? ⟨g, 4, none⟩ = some v4 ∧ (w.alloc o).drew.frozen? ⟨g, 4, none⟩ = false :=
  ⟨((balloc w o).cell (p := ⟨g, 4, none⟩) hg).trans h1, (World.frozen?_alloc_past o g 4 hg).trans f1⟩
theorem gr_app {w4 w5 : World} {g gg cap n : Nat} {G : Gr} {a : Option Addr} {c : Nat} {b : Option Addr} {d : Nat} (o : Obj) (v : Mb) (HG : GrW w4 g G a c b d) (hn : G.L.length = n) (hgrow : ((w4.alloc o).drew).grownBy w5 (Value.slice a n c).ownBlock)
    (hown1 : w5.ownsRow 0 49 3 (.slice (some ⟨gg, 0, none⟩) (n + 1) cap) (n + 1) (mbCells G.L ++ [.int .i64 v.i, .int .i64 v.k, .int .i64 v.d])) (hat : (Value.slice a n c).ownBlock = some gg ∨ gg = w4.heap.size + 1) :
    GrW (w5.setCell ⟨g, 4, none⟩ (.slice (some ⟨gg, 0, none⟩) (n + 1) cap)) g { G with L := G.L ++ [v] } (some ⟨gg, 0, none⟩) cap b d ∧ Mvs w4 (w5.setCell ⟨g, 4, none⟩ (.slice (some ⟨gg, 0, none⟩) (n + 1) cap)) (SF g a b) (SF g (some ⟨gg, 0, none⟩) b) := by
  have hg4 := HG.lt
  have hzA : ((w4.alloc o).drew).heap.size = w4.heap.size + 1 := by simp
  have key : ∀ k, k < w4.heap.size → (∀ x, a = some x → x.block ≠ k) → w5.heap[k]? = w4.heap[k]? := fun k hk hx => by
    refine (hgrow.block k (by rw [hzA]; omega) (fun h => ?_)).trans (((balloc w4 o).drew).block k hk)
    cases a with
    | none => cases h
    | some x => injection h with h; exact hx x rfl h.symm
  have hl : (G.L ++ [v]).length = n + 1 := by simp [hn]
  have h1 := HG.setL (D := G.L ++ [v]) (a' := some ⟨gg, 0, none⟩) (c' := cap) (w' := w5) (key g hg4 HG.neA) (fun x hx => key _ (own_low HG.rowO x hx).2 (fun y hy e => HG.neAB y x hy hx e)) (by rw [hl, mbCells_snoc]; exact hown1)
  rw [hl] at h1
  have hb0 : Below 0 w4 w5 := ⟨hgrow.os, hgrow.tape, hgrow.output, by have := hgrow.size; omega, fun k hk => by omega⟩
  refine ⟨h1, Mvs.setG ⟨hb0, fun k hk hS => key k hk (fun x hx e => hS (.inr (.inl ⟨x, hx, e⟩))), fun k hk => ?_⟩ (.inl rfl) 4 _⟩
  rcases hk with h | ⟨x, hx, rfl⟩ | h
  · exact .inl (.inl h)
  · injection hx with hx
    subst hx
    rcases hat with h | h
    · cases a with
      | none => cases h
      | some y => injection h with h; exact .inl (.inr (.inl ⟨y, rfl, h⟩))
    · exact .inr (by show w4.heap.size ≤ gg; omega)
  · exact .inl (.inr (.inr h))
theorem gjoin_nil (x : Int) (w : World) : Calls Try.prog 29 #[.pointer none, .int .i64 x] w fun e w' => e = .returned (.tuple #[.int .i64 0, .int .i64 0, .int .i64 1]) ∧ Below w.heap.size w w' := by
  have hal := balloc w (.cells #[.int .i64 x] 3)
  go_enter Try.func29, Try.ntmps29
  go_wp2_with fail
  go_ret3
  exact ⟨rfl, hal⟩
set_option maxRecDepth 100000 in
theorem gjoin_bad (x : Int) (G : Gr) (g : Nat) (a : Option Addr) (c : Nat) (b : Option Addr) (d : Nat) (w : World) (hx : x < 1 ∨ 8 < x) (h : GrW w g G a c b d) :
    Calls Try.prog 29 #[.pointer (some ⟨g, 0, none⟩), .int .i64 x] w (GrP g a b G (.tuple #[.int .i64 0, .int .i64 0, .int .i64 1]) w) := by
  have hal := balloc w (.cells #[.int .i64 x] 3)
  have HF := Lib.hid (h.keep hal |> fun _ => GrP.same (.tuple #[.int .i64 0, .int .i64 0, .int .i64 1]) h hal)
  clear h hal
  rcases (show x < 1 ∨ (¬ x < 1 ∧ 8 < x) by omega) with h1 | ⟨h1, h2⟩ <;>
  · clear hx
    go_enter Try.func29, Try.ntmps29
    go_wp2_with fail
    go_ret3
    exact HF.out
set_option maxRecDepth 100000 in
set_option maxHeartbeats 4000000 in
theorem gjoin_full (x : Int) (G : Gr) (g : Nat) (a : Option Addr) (c : Nat) (b : Option Addr) (d : Nat) (w : World) (hx : ¬ x < 1 ∧ ¬ 8 < x) (hf : G.g = 1099511627776 ∨ G.n = 1099511627776) (h : GrW w g G a c b d) :
    Calls Try.prog 29 #[.pointer (some ⟨g, 0, none⟩), .int .i64 x] w (GrP g a b G (.tuple #[.int .i64 0, .int .i64 0, .int .i64 6]) w) := by
  obtain ⟨h1, h2⟩ := hx
  have hal := balloc w (.cells #[.int .i64 x] 3)
  have HF := Lib.hid (GrP.same (.tuple #[.int .i64 0, .int .i64 0, .int .i64 6]) h hal)
  obtain ⟨m0, m1, m2, m3, m4, m5, hfz⟩ := (h.keep hal).six
  have hgl := h.lt
  clear h hfz m0 m3 m4 m5
  have hc : ((G.g == 1099511627776) = true) ∨ ((G.g == 1099511627776) = false ∧ (G.n == 1099511627776) = true) := by
    by_cases h : G.g = 1099511627776
    · exact .inl (by simpa using h)
    · exact .inr ⟨by simpa using h, by simpa using hf.resolve_left h⟩
  clear hf
  generalize G.g = gg at *
  generalize G.n = gn at *
  rcases hc with h3 | ⟨h3, h4⟩
  · go_enter Try.func29, Try.ntmps29
    go_wp2_with fail
    go_ret3
    exact HF.out
  · go_enter Try.func29, Try.ntmps29
    go_wp2_with fail
    go_ret3
    exact HF.out
set_option maxRecDepth 100000 in
set_option maxHeartbeats 8000000 in
theorem gjoin_good (K : Nat) (x : Int) (G : Gr) (g : Nat) (a : Option Addr) (c : Nat) (b : Option Addr) (d : Nat) (w : World) (hK : K ≤ 800) (hok : GOk G K) (hx : ¬ x < 1 ∧ ¬ 8 < x) (hf : G.g ≠ 1099511627776 ∧ G.n ≠ 1099511627776) (h : GrW w g G a c b d) :
    Calls Try.prog 29 #[.pointer (some ⟨g, 0, none⟩), .int .i64 x] w (GrP g a b (begG (addG G x)) (.tuple #[.int .i64 G.n, .int .i64 (G.g + 1), .int .i64 0]) w) := by
  obtain ⟨i0, hi, hz0, hz1, hz2⟩ := info_parts info_mb
  obtain ⟨h1, h2⟩ := hx
  have hlN := hok.len
  have hg0 := hok.g0
  have hg1 := hok.g1
  have hn0 := hok.n0
  have hn1 := hok.n1
  have ht0 := hok.t0
  have ht1 := hok.t1
  have h3 : (G.g == 1099511627776) = false := by simpa using hf.1
  have h4 : (G.n == 1099511627776) = false := by simpa using hf.2
  have HO2 := Lib.hid (addG_ok (x := x) hok (by omega) hf.2)
  have HF := Lib.hid hf
  have hal := balloc w (.cells #[.int .i64 x] 3)
  have hpx := Whole.new w 3 #[.int .i64 x]
  have H1 := h.keep hal
  have M1 := Mvs.below (SF g a b) hal
  have HLv := Lib.hid (fun k hk => (h.live k hk : k < w.heap.size))
  have KR := Lib.hid (fun (w1 : World) (hC : CapJ w1 w.heap.size g x) (hG : GrW w1 g G a c b d) => remJ_walk x G g w.heap.size a c b d w1 (by omega) hG hC (fun y hy e => by have := HLv.out _ (.inr (.inl ⟨y, hy, rfl⟩)); omega))
  obtain ⟨m0, m1, m2, m3, m4, m5, hfz⟩ := H1.six
  clear hok hf h hfz
  go_enter Try.func29, Try.ntmps29
  go_upto_region 1 with fail
  obtain ⟨w1, hw1⟩ : ∃ w1, w1 = w.alloc (.cells #[.int .i64 x] 3) := ⟨_, rfl⟩
  rw [← hw1] at hal hpx H1 M1 m0 m1 m2 m3 m4 m5 ⊢
  clear hw1
  have p0 := hpx.cell 0
  simp only [List.getElem?_toArray, List.getElem?_cons_zero] at p0
  have KR1 := Lib.hid (KR.out w1 ⟨p0, H1.lt⟩ H1)
  have hpl : w.heap.size < w1.heap.size := hpx.lt
  have hgl := H1.lt
  clear KR m0 m3 m4 m5
  go_wp2_with fail
  refine KR1.out.mono ?_
  rintro e w2 ⟨rfl, c2, H2, M2⟩
  have P2 : Whole w2 w.heap.size 3 #[.int .i64 x] := (M2.2.1 _ hpl (fun hS => by have := HLv.out _ hS; omega)).trans hpx
  obtain ⟨D, hD⟩ : ∃ D, keepP (byW x) G.L = D := ⟨_, rfl⟩
  have hDl : D.length ≤ K := by rw [← hD]; exact Nat.le_trans (keepP_len _ _) hlN
  rw [hD] at H2
  have HD := Lib.hid hD
  have M3 := (M1.trans M2).setG (.inl rfl) 2 (.int .i64 (G.n + 1))
  have H3 := H2.setN (G.n + 1)
  have P3 := P2.far g 2 (.int .i64 (G.n + 1)) (fun e => by have := HLv.out g (.inl rfl); omega)
  obtain ⟨m0, m1, m2, m3, m4, m5, hfz⟩ := H2.six
  have f2 := hfz 2
  have hwn : IntKind.i64.wrap (G.n + 1) = G.n + 1 := IntWalk.i64_in _ (by omega)
  simp only at m0 m1 m2 m3 m4 m5
  clear hD KR1 hfz m0 m1 m3 m4 m5
  go_upto_region 8 with fail
  obtain ⟨w3, hw3⟩ : ∃ w3, w3 = w2.setCell ⟨g, 2, none⟩ (.int .i64 (G.n + 1)) := ⟨_, rfl⟩
  rw [← hw3] at H3 M3 P3 ⊢
  clear hw3 m2 f2 P2 H2 M2 hwn p0 hpx
  have p0 := P3.cell 0
  simp only [List.getElem?_toArray, List.getElem?_cons_zero] at p0
  obtain ⟨n, hn⟩ : ∃ n, D.length = n := ⟨_, rfl⟩
  obtain ⟨m0, m1, m2, m3, m4, m5, hfz⟩ := H3.six
  have f4 := hfz 4
  have hgl3 := H3.lt
  have hO := H3.rowL
  simp only at m3 m4 hO
  rw [hn] at m4 hO hDl
  have HN := Lib.hid hn
  have hwt : IntKind.i64.wrap (G.t + 12) = G.t + 12 := IntWalk.i64_in _ (by omega)
  have ag : (Value.slice a n c2).ownBlock ≠ some g := fun hh => by
    cases a with
    | none => cases hh
    | some y => injection hh with hh; exact H3.neA y rfl hh
  clear hfz m0 m1 m2 m5 hn H1
  go_wp2_with fail
  go_region_law
    ((refine step_append_lies _ (by rfl) _ _ _ (by rfl) 0 49 i0 _ 3 24 Try.underlying38 hi hz0 hz1 hz2 rfl (by omega) (.slice a n c2) n _ (by rfl) ((hO.alloc _).drew)
        ⟨w3.heap.size, 0, none⟩ 1 1 [.int .i64 G.n, .int .i64 x, .int .i64 (G.t + 12)] (by rfl) (by rfl) (World.news_of_block (cs := #[.int .i64 G.n, .int .i64 x, .int .i64 (G.t + 12)]) (t := 49) (fr := (0, 0)) (heap_alloc_new w3 _)) (by simp [Value.oneCell'])
        (by omega) (by unfold maxLen; omega) (by omega) (Nat.zero_le _) (w3.heap.size + 1) (by simp) ?_; intro gg cap w5 hown1 hgrow hat hlt5; have q1 := (hgrow.cell_far ⟨g, 4, none⟩ (by simp; omega) (Ne.symm ag)).trans (g3_alloc _ m4 f4 hgl3).1; have q2 := (hgrow.frozen_far ⟨g, 4, none⟩ (by simp; omega) (Ne.symm ag)).trans (g3_alloc _ m4 f4 hgl3).2))
  all_goals
    obtain ⟨H6, M6⟩ := gr_app _ ⟨G.n, x, G.t + 12⟩ H3 HN.out hgrow hown1 hat
    obtain ⟨w6, hw6⟩ : ∃ w6, w6 = w5.setCell ⟨g, 4, none⟩ (.slice (some ⟨gg, 0, none⟩) (n + 1) cap) := ⟨_, rfl⟩
    rw [← hw6] at H6 M6 ⊢
    have H7 : GrW w6 g (addG G x) (some ⟨gg, 0, none⟩) cap b d := by unfold addG; rw [HD.out]; exact H6
    have KB := Lib.hid (beg_walk (K + 1) (addG G x) g _ cap b d w6 (by omega) HO2.out HF.out.1 H7)
    have M7 := Lib.hid (M3.trans M6)
    clear hw6 q1 q2 m3 m4 f4 hO p0 H6 M6 H7 M3 H3
    go_wp2_with fail
    refine KB.out.mono ?_
    rintro e w8 ⟨rfl, b8, d8, H8, M8⟩
    have n1 := H8.six.2.1
    simp only [begG, addG] at n1
    have hgl8 := H8.lt
    have HFin := Lib.hid (fun nq => show ∃ a' c' b' d', GrW (w8.drewN nq) g (begG (addG G x)) a' c' b' d' ∧ Mvs w (w8.drewN nq) (SF g a b) (SF g a' b') from ⟨_, _, _, _, H8.keep (below_drewN _ _ _), (M7.out.trans M8).trans (Mvs.below _ (below_drewN _ _ _))⟩)
    clear H8 M8
    go_wp2_with fail
    go_quiet (fail)
    go_wp2_with fail
    go_ret3
    exact ⟨rfl, HFin.out _⟩
theorem gjoin_walk (K : Nat) (x : Int) (G : Gr) (g : Nat) (a : Option Addr) (c : Nat) (b : Option Addr) (d : Nat) (w : World) (hK : K ≤ 800) (hok : GOk G K) (h : GrW w g G a c b d) :
    Calls Try.prog 29 #[.pointer (some ⟨g, 0, none⟩), .int .i64 x] w (GrP g a b (joinG G x) (joinV G x) w) := by
  unfold joinG joinV joinI joinN joinE
  by_cases h1 : x < 1 ∨ 8 < x
  · simp only [if_pos h1]
    exact gjoin_bad x G g a c b d w h1 h
  · simp only [if_neg h1]
    by_cases h2 : G.g = 1099511627776 ∨ G.n = 1099511627776
    · simp only [if_pos h2]
      exact gjoin_full x G g a c b d w (by omega) h2 h
    · simp only [if_neg h2, if_true]
      exact gjoin_good K x G g a c b d w hK hok (by omega) (by omega) h
end Go.Proofs.Ytocmhmfaehnliaa
