/- Heavy for the laws: with the blocks that it has; each call; some, times, made, awake. -/
import Derived.Test.YthghnpopcnnidaaHvTop
import Derived.Test.YthghnpopcnnidaaTaSame
import Derived.Test.YthghnpopcnnidaaTaOpen
namespace Go.Proofs.Ythghnpopcnnidaa
open Go.RowKit Vm
set_option linter.unusedVariables false
set_option linter.unusedSimpArgs false

theorem i64t_len (l : List Int) : (i64s l).length = l.length := by simp [i64s]
theorem Sl.intsH {w : World} {B : Nat} {a : Option Addr} {L : List Int} (h : Sl w B a (i64s L)) (h0 : 0 < L.length) :
    ∃ b off, a = some ⟨b, off, none⟩ ∧ b < B ∧ ∀ j, j < L.length → w.cell? ⟨b, off + j, none⟩ = some (.int .i64 (L.getD j 0)) := by
  rcases h with h | ⟨b, off, e, hlt, hc⟩
  · have := congrArg List.length h
    rw [i64t_len, List.length_nil] at this; omega
  · exact ⟨b, off, e, hlt, fun j hj => hc _ _ (by unfold i64s; simp [List.getD, hj])⟩
def HA (w : World) (g : Nat) (H : Hv) (S : Nat → Prop) : Prop := ∃ a c, HvW w g H a c ∧ S = HF g a
def HQ (g : Nat) (S : Nat → Prop) (H' : Hv) (E : Value) (w : World) (e : Ending) (w' : World) : Prop := e = .returned E ∧ ∃ S', HA w' g H' S' ∧ Mvs w w' S S'
theorem HA.live {w : World} {g : Nat} {H : Hv} {S : Nat → Prop} (h : HA w g H S) : ∀ k, S k → k < w.heap.size := by
  obtain ⟨a, c, h, rfl⟩ := h
  exact h.live
theorem HA.keep {w w' : World} {g : Nat} {H : Hv} {S : Nat → Prop} (h : HA w g H S) (hb : Below w.heap.size w w') : HA w' g H S := by
  obtain ⟨a, c, h, rfl⟩ := h
  exact ⟨a, c, h.keep hb, rfl⟩
/-- All its blocks stay where another object is turned that lies apart. -/
theorem HA.mvs {w w' : World} {g : Nat} {H : Hv} {S T T' : Nat → Prop} (h : HA w g H S) (hm : Mvs w w' T T') (hd : ∀ k, S k → ¬ T k) : HA w' g H S := by
  have hl := h.live
  obtain ⟨a, c, h, rfl⟩ := h
  have key : ∀ k, HF g a k → w'.heap[k]? = w.heap[k]? := fun k hk => hm.2.1 k (hl k hk) (hd k hk)
  exact ⟨a, c, ⟨(key g (.inl rfl)).trans h.box, own_same h.row (fun x hx => key _ (.inr ⟨x, hx, rfl⟩))⟩, rfl⟩
/-- A slice that lies apart. -/
def Apt (w : World) (S : Nat → Prop) (a : Option Addr) (xs : List Value) : Prop := Sl w w.heap.size a xs ∧ ∀ x, a = some x → ¬ S x.block ∧ x.block < w.heap.size
theorem Apt.mvs {w w' : World} {S S' : Nat → Prop} {a : Option Addr} {xs : List Value} (h : Apt w S a xs) (hm : Mvs w w' S S') : Apt w' S' a xs :=
  ⟨h.1.mvs hm (fun x hx => (h.2 x hx).1), fun x hx => ⟨hm.out (h.2 x hx).2 (h.2 x hx).1, Nat.lt_of_lt_of_le (h.2 x hx).2 hm.size⟩⟩
theorem Apt.keep {w w' : World} {S : Nat → Prop} {a : Option Addr} {xs : List Value} (h : Apt w S a xs) (hb : Below w.heap.size w w') : Apt w' S a xs := h.mvs (Mvs.below S hb)
def NewHQ (m : Nat) (w : World) (e : Ending) (w' : World) : Prop := ∃ g S, e = .returned (.tuple #[.pointer (some ⟨g, 0, none⟩), .int .i64 0]) ∧ HA w' g (newH m) S ∧ Hid (∀ k, S k → w.heap.size ≤ k) ∧ Below w.heap.size w w'
theorem newH_walk (m : Nat) (w : World) (h0 : 1 ≤ m) (h1 : m ≤ 64) : Calls Try.prog 10 #[.int .i64 m] w (NewHQ m w) := by
  have q1 : ¬ (m : Int) < 1 := by omega
  have q2 : ¬ 64 < (m : Int) := by omega
  have hal := balloc w (.cells #[.int .i64 m, .int .i64 0, .slice none 0 0] 52)
  have hW := Lib.hid (Whole.new w 52 #[.int .i64 m, .int .i64 0, .slice none 0 0])
  go_enter Try.func10, Try.ntmps10
  go_wp2_with fail
  go_ret2
  refine ⟨w.heap.size, HF w.heap.size none, rfl, ⟨none, 0, ⟨hW.out, World.ownsRow_nil _ _ _ _⟩, rfl⟩, Lib.hid ?_, hal⟩
  rintro k (rfl | ⟨x, hx, rfl⟩)
  · exact Nat.le_refl _
  · cases hx
theorem newH_bad (m : Int) (w : World) (h : ¬ (1 ≤ m ∧ m ≤ 64)) : Calls Try.prog 10 #[.int .i64 m] w fun e w' => e = .returned (.tuple #[.pointer none, .int .i64 1]) ∧ w' = w := by
  rcases (show m < 1 ∨ (¬ m < 1 ∧ 64 < m) by omega) with h1 | ⟨h1, h2⟩ <;>
  · clear h
    go_enter Try.func10, Try.ntmps10
    go_wp2_with fail
    go_ret2
    exact ⟨rfl, rfl⟩
theorem count_ha (K : Nat) (x : Int) (H : Hv) (g : Nat) (S : Nat → Prop) (w : World) (hK : K ≤ 2000) (hok : HOk H K) (h : HA w g H S) :
    Calls Try.prog 24 #[.pointer (some ⟨g, 0, none⟩), .int .i64 x] w (HQ g S (countH H x) (.tuple #[]) w) := by
  obtain ⟨a, c, h, rfl⟩ := h
  exact (count_walk K x H g a c w hK hok h).mono fun e w' ⟨he, a', c', h1, h2⟩ => ⟨he, _, ⟨a', c', h1, rfl⟩, h2⟩
theorem HA.cells {w : World} {g : Nat} {H : Hv} {S : Nat → Prop} (h : HA w g H S) : w.cell? ⟨g, 0, none⟩ = some (.int .i64 (H.m : Int)) ∧ w.cell? ⟨g, 1, none⟩ = some (.int .i64 (H.s : Int)) ∧ g < w.heap.size := by
  obtain ⟨a, c, h, rfl⟩ := h
  exact ⟨h.three.1, h.three.2.1, h.lt⟩
set_option maxRecDepth 100000 in
set_option maxHeartbeats 4000000 in
theorem add_ha (K : Nat) (l : List Int) (N : Nat) (al : Option Addr) (cl : Nat) (H : Hv) (g : Nat) (S : Nat → Prop) (w : World) (hN : l.length = N) (hK : K + N ≤ 2000) (hok : HOk H K) (hl : Apt w S al (i64s l)) (h : HA w g H S) :
    Calls Try.prog 13 #[.pointer (some ⟨g, 0, none⟩), .slice al N cl] w (HQ g S (addTo H l N) (.int .i64 0) w) := by
  have HN := Lib.hid hN
  have HOK := Lib.hid (fun i => addTo_ok (l := l) hok i)
  have hm0 := hok.m0
  have hsK := hok.sK
  have HL := Lib.hid hl
  obtain ⟨m0, m1, hgl⟩ := h.cells
  have HH := Lib.hid h
  have g1 : ((H.m : Int) == 0) = false := beq_eq_false_iff_ne.2 (by omega)
  have hw : IntKind.i64.wrap ((H.s : Int) + (N : Int)) = (H.s : Int) + (N : Int) := IntWalk.i64_in _ (by omega)
  have g2 : ¬ 1099511627776 < (H.s : Int) + (N : Int) := by omega
  clear hN hok hl h hm0 hsK
  go_enter Try.func13, Try.ntmps13
  go_upto_region 5 with fail
  clear g1 g2 hw m0 m1
  go_wp2_with fail
  go_loopw [28] (fun I wr => ∃ (k : Nat) (S' : Nat → Prop), k ≤ N ∧ I = .int .i64 k ∧ HA wr g (addTo H l k) S' ∧ Hid (Apt wr S' al (i64s l)) ∧ Mvs w wr S S') (fun I _ => N - (intOf I).toNat)
  case atStart => exact ⟨0, S, by omega, rfl, HH.out, HL, Mvs.refl _ _⟩
  case round =>
    obtain ⟨k, Sk, hk, rfl, A, q, M⟩ := hrel
    by_cases hlt : k < N
    · have hlt2 : (k : Int) < (N : Int) := by omega
      have hk0 : 0 ≤ (k : Int) := by omega
      obtain ⟨b1, o1, rfl, hb1, hc⟩ := q.out.1.intsH (by rw [HN.out]; omega)
      have r0 := hc k (by rw [HN.out]; exact hlt)
      have HE := Lib.hid (show addTo H l (k + 1) = countH (addTo H l k) (l.getD k 0) from rfl)
      have KC := count_ha (K + k) (l.getD k 0) (addTo H l k) g Sk wr (by omega) (HOK.out k) A
      rw [← HE.out] at KC
      unfold HQ at KC
      have HKC := Lib.hid KC
      obtain ⟨x, hx⟩ : ∃ x, l.getD k 0 = x := ⟨_, rfl⟩
      rw [hx] at r0 HKC
      clear hc hx KC A
      go_wp2_with fail
      refine HKC.out.mono ?_
      rintro e w5 ⟨rfl, S5, A5, M5⟩
      have q5 := Lib.hid (q.out.mvs M5)
      have M6 := M.trans M5
      clear HKC r0
      go_wp2_with fail
      go_roundw
      case rel => exact ⟨k + 1, S5, by omega, by go_num, A5, q5, M6⟩
      case measure => simp [intOf]; omega
    · obtain rfl : k = N := by omega
      go_wp2_with fail
      go_ret
      exact ⟨rfl, Sk, A, M⟩
theorem add_nil (N : Nat) (al : Option Addr) (cl : Nat) (w : World) : Calls Try.prog 13 #[.pointer none, .slice al N cl] w fun e w' => e = .returned (.int .i64 1) ∧ w' = w := by
  go_enter Try.func13, Try.ntmps13
  go_wp2_with fail
  go_ret
  exact ⟨rfl, rfl⟩
theorem seen_ha (H : Hv) (g : Nat) (S : Nat → Prop) (w : World) (h : HA w g H S) : Calls Try.prog 17 #[.pointer (some ⟨g, 0, none⟩)] w fun e w' => e = .returned (.int .i64 (H.s : Int)) ∧ w' = w := by
  obtain ⟨m0, m1, hgl⟩ := h.cells
  clear h
  go_enter Try.func17, Try.ntmps17
  go_wp2_with fail
  go_ret
  exact ⟨rfl, rfl⟩
set_option maxRecDepth 100000 in
set_option maxHeartbeats 8000000 in
theorem cnt_walk (K : Nat) (x : Int) (H : Hv) (g : Nat) (a : Option Addr) (c : Nat) (w : World) (hK : K ≤ 2000) (hok : HOk H K) (h : HvW w g H a c) :
    Calls Try.prog 15 #[.pointer (some ⟨g, 0, none⟩), .int .i64 x] w fun e w' => e = .returned (.tuple #[.int .i64 (loH H.L x), .int .i64 (hiH H.m H.L x)]) ∧ Below w.heap.size w w' := by
  have hm0 := hok.m0
  have hm1 := hok.m1
  have hln := hok.len
  have hsK := hok.sK
  have HT := Lib.hid hok.t
  have hgl := h.lt
  have KF := Lib.hid (find_walk x H g a c w (by omega) h)
  have HG := Lib.hid h
  obtain ⟨N, hN⟩ : ∃ N, H.L.length = N := ⟨_, rfl⟩
  have HN := Lib.hid hN
  rw [hN] at hln
  unfold loH hiH
  rw [hN]
  clear hN h hok
  by_cases hh : hasK H.L x = true
  · obtain ⟨hi1, hi2⟩ := idxK_lt hh
    have hfi : findI H.L x = (idxK H.L x : Int) := by unfold findI; rw [if_pos hh]
    rw [if_pos hh, if_pos hh]
    rw [hfi] at KF
    have htn := HT.out _ (getD_memT hi1)
    obtain ⟨i, hie⟩ : ∃ i, idxK H.L x = i := ⟨_, rfl⟩
    rw [hie] at hi1 KF htn ⊢
    rw [HN.out] at hi1
    have hi3 : (i : Int) < (N : Int) := by omega
    have hi0 : 0 ≤ (i : Int) := by omega
    obtain ⟨v, hv⟩ : ∃ v, H.L.getD i ta0 = v := ⟨_, rfl⟩
    rw [hv] at htn ⊢
    have HV := Lib.hid hv
    have Hw := Lib.hid (show IntKind.i64.wrap (v.n - v.o) = v.n - v.o from IntWalk.i64_in _ (by omega))
    clear hh hi2 hfi hie hv HT htn
    go_enter Try.func15, Try.ntmps15
    go_wp2_with fail
    refine KF.out.mono ?_
    rintro e w2 ⟨rfl, b2⟩
    have H2 := HG.out.keep b2
    have k2 := H2.three.2.2.1
    have hrow := H2.row
    rw [HN.out] at k2 hrow
    obtain ⟨ga, rfl, _, hgal, hfa, hcc⟩ := ownN_at hrow (by omega)
    have hat := taCells_at H.L i (by rw [HN.out]; exact hi1)
    have r1 := hcc _ _ hat.2.1
    have r2 := hcc _ _ hat.2.2
    rw [HV.out] at r1 r2
    have hgl2 := H2.lt
    have hwn := Hw.out
    obtain ⟨vk, vn, vo⟩ := v
    simp only at r1 r2 hwn
    have hfin := Lib.hid (fun n => b2.trans (below_drewN w.heap.size w2 n))
    clear KF hcc hfa hrow H2 hat b2
    go_wp2_with fail
    go_quiet (fail)
    go_wp2_with fail
    go_ret2
    exact ⟨by first | rfl | trivial, hfin.out _⟩
  · have hh : hasK H.L x = false := by simpa using hh
    have hfi : findI H.L x = -1 := by unfold findI; rw [if_neg (by rw [hh]; decide)]
    rw [hfi] at KF
    rw [if_neg (by rw [hh]; decide), if_neg (by rw [hh]; decide)]
    by_cases hl : N < H.m
    · rw [if_pos hl]
      have hl2 : (N : Int) < (H.m : Int) := by omega
      clear hh hfi HT
      go_enter Try.func15, Try.ntmps15
      go_wp2_with fail
      refine KF.out.mono ?_
      rintro e w2 ⟨rfl, b2⟩
      have H2 := HG.out.keep b2
      have k0 := H2.three.1
      have k2 := H2.three.2.2.1
      rw [HN.out] at k2
      have hgl2 := H2.lt
      have hfin := Lib.hid (fun n => b2.trans (below_drewN w.heap.size w2 n))
      clear KF H2 b2
      rcases Nat.eq_zero_or_pos N with hz | hz
      · subst hz
        go_wp2_with fail
        go_quiet (fail)
        go_wp2_with fail
        go_ret2
        exact ⟨by first | rfl | trivial, hfin.out _⟩
      · have g1 : ((N : Int) == 0) = false := beq_eq_false_iff_ne.2 (by omega)
        go_wp2_with fail
        go_quiet (fail)
        go_wp2_with fail
        go_ret2
        exact ⟨by first | rfl | trivial, hfin.out _⟩
    · rw [if_neg hl]
      have hl2 : ¬ (N : Int) < (H.m : Int) := by omega
      have hN0 : 0 < N := by omega
      have g1 : ((N : Int) == 0) = false := beq_eq_false_iff_ne.2 (by omega)
      have hfl : firstR H.L < N := by rw [← HN.out]; exact firstTo_lt (by rw [HN.out]; omega) _ (Nat.le_refl _)
      obtain ⟨i, hie⟩ : ∃ i, firstR H.L = i := ⟨_, rfl⟩
      rw [hie] at hfl ⊢
      have hi3 : (i : Int) < (N : Int) := by omega
      have hi0 : 0 ≤ (i : Int) := by omega
      obtain ⟨v, hv⟩ : ∃ v, H.L.getD i ta0 = v := ⟨_, rfl⟩
      rw [hv]
      have HV := Lib.hid hv
      have HI := Lib.hid hie
      clear hh hfi HT hie hv
      go_enter Try.func15, Try.ntmps15
      go_wp2_with fail
      refine KF.out.mono ?_
      rintro e w2 ⟨rfl, b2⟩
      have HG2 := Lib.hid (fun n => (HG.out.keep b2).keep (below_drewN _ w2 n))
      have BG2 := Lib.hid (fun n => b2.trans (below_drewN w.heap.size w2 n))
      have k0 := (HG.out.keep b2).three.1
      have k2 := (HG.out.keep b2).three.2.2.1
      rw [HN.out] at k2
      have hgl2 := (HG.out.keep b2).lt
      clear KF b2
      go_wp2_with fail
      go_quiet (fail)
      obtain ⟨w3, hw3⟩ : ∃ w3, w3 = w2.drewN nq := ⟨_, rfl⟩
      have H3 := HG2.out nq
      have B3 := BG2.out nq
      rw [← hw3] at H3 B3 ⊢
      clear hw3 HG2 BG2 k0 k2 hgl2
      have k2 := H3.three.2.2.1
      have hrow := H3.row
      have hgl3 := H3.lt
      rw [HN.out] at k2 hrow
      obtain ⟨ga, rfl, _, hgal, _, _⟩ := ownN_at hrow (by omega)
      have H3d := Lib.hid (H3.keep (below_drewN _ w3 1))
      have B3d := Lib.hid (B3.trans (below_drewN w.heap.size w3 1))
      have KB := first_walk H.L N (some ⟨ga, 0, none⟩) c w3.drew HN.out (by omega) hN0 ((ownN_sl hrow).below (below_drewN _ w3 1) (Nat.le_refl _))
      rw [HI.out] at KB
      have HKB := Lib.hid KB
      have HAT := Lib.hid (taCells_at H.L i (by rw [HN.out]; exact hfl)).2.1
      rw [HV.out] at HAT
      obtain ⟨vk, vn, vo⟩ := v
      simp only at HAT ⊢
      clear KB hrow H3 B3
      go_wp2_with fail
      go_region_with (go_at_call 27; refine HKB.out.mono ?_; rintro e w5 ⟨rfl, b5⟩; have q2 := (H3d.out.keep b5).three.2.2.1; rw [HN.out] at q2; have hrow5 := (H3d.out.keep b5).row; rw [HN.out] at hrow5; obtain ⟨ga', e', _, hgal5, _, hcc5⟩ := ownN_at hrow5 (by omega); injection e' with e'; injection e' with e1 _ _; subst e1; have r1 := hcc5 _ _ HAT.out; clear hcc5 hrow5)
      all_goals
        have B5 := B3d.out.trans (b5.mono B3d.out.size)
        clear HKB H3d B3d b5
        go_wp2_with fail
        go_ret2
        exact ⟨by first | rfl | trivial, B5⟩
theorem cnt_ha (K : Nat) (x : Int) (H : Hv) (g : Nat) (S : Nat → Prop) (w : World) (hK : K ≤ 2000) (hok : HOk H K) (h : HA w g H S) :
    Calls Try.prog 15 #[.pointer (some ⟨g, 0, none⟩), .int .i64 x] w fun e w' => e = .returned (.tuple #[.int .i64 (loH H.L x), .int .i64 (hiH H.m H.L x)]) ∧ Below w.heap.size w w' := by
  obtain ⟨a, c, h, rfl⟩ := h
  exact cnt_walk K x H g a c w hK hok h
theorem cnt_nil (x : Int) (w : World) : Calls Try.prog 15 #[.pointer none, .int .i64 x] w fun e w' => e = .returned (.tuple #[.int .i64 0, .int .i64 0]) ∧ w' = w := by
  go_enter Try.func15, Try.ntmps15
  go_wp2_with fail
  go_ret2
  exact ⟨rfl, rfl⟩
/-- A row told. -/
def RowQ (S : Nat → Prop) (n : Nat) (xs : List Value) (w : World) (e : Ending) (w' : World) : Prop := ∃ a' c', e = .returned (.slice a' n c') ∧ Apt w' S a' xs ∧ Below w.heap.size w w'
theorem top_ha (n : Nat) (K : Nat) (H : Hv) (g : Nat) (S : Nat → Prop) (w : World) (hn0 : 1 ≤ n) (hn1 : n ≤ 1000000) (hok : HOk H K) (h : HA w g H S) :
    Calls Try.prog 19 #[.pointer (some ⟨g, 0, none⟩), .int .i64 n] w (RowQ S (min n H.L.length) (taCells ((topL H.L).take (min n H.L.length))) w) := by
  have hl := h.live
  obtain ⟨a, c, h, rfl⟩ := h
  exact (top_walk n H g a c w hn0 hn1 (by have := hok.len; have := hok.m1; omega) h).mono fun e w' ⟨a', c', he, hs, hx, hb⟩ => ⟨a', c', he, ⟨hs, fun x hx2 => ⟨fun hS => by have := hl _ hS; have := (hx x hx2).1; omega, (hx x hx2).2⟩⟩, hb⟩
/-- The whole top. -/
theorem top64_ha (K : Nat) (H : Hv) (g : Nat) (S : Nat → Prop) (w : World) (hok : HOk H K) (h : HA w g H S) :
    Calls Try.prog 19 #[.pointer (some ⟨g, 0, none⟩), .int .i64 64] w (RowQ S H.L.length (taCells (topL H.L)) w) := by
  have hl := hok.len
  have hm := hok.m1
  have := top_ha 64 K H g S w (by omega) (by omega) hok h
  rw [show min 64 H.L.length = H.L.length by omega, List.take_of_length_le (by rw [topL_len]; exact Nat.le_refl _)] at this
  exact this
theorem some30_walk (a : Option Addr) (n c : Nat) (w : World) (hn : (n : Int) ≤ 9223372036854775807) (hc : n ≤ c) :
    Calls Try.prog 9 #[.slice a n c] w fun e w' => e = .returned (.slice a (min n 400) c) ∧ w = w' := by
  by_cases h : (400 : Int) < (n : Int)
  · have e : min n 400 = 400 := by omega
    rw [e]
    have hc2 : (400 : Int) ≤ (c : Int) := by omega
    go_enter Try.func9, Try.ntmps9
    go_wp2
    go_ret
    exact ⟨rfl, rfl⟩
  · have e : min n 400 = n := by omega
    rw [e]
    clear e
    go_enter Try.func9, Try.ntmps9
    go_wp2
    go_ret
    exact ⟨rfl, rfl⟩
theorem cntX_take (L : List Int) (x : Int) (i : Nat) (h : i < L.length) : cntX (L.take (i + 1)) x = cntX (L.take i) x + if L.getD i 0 = x then 1 else 0 := by
  rw [take_snocI L h, cntX_snoc]
set_option maxRecDepth 100000 in
set_option maxHeartbeats 4000000 in
theorem times_walk (L : List Int) (N : Nat) (x : Int) (a : Option Addr) (c B : Nat) (w : World) (hN : L.length = N) (hNm : N ≤ 1000) (h : Sl w B a (i64s L)) (hB : B ≤ w.heap.size) :
    Calls Try.prog 22 #[.slice a N c, .int .i64 x] w fun e w' => e = .returned (.int .i64 ((cntX L x : Nat) : Int)) ∧ w' = w := by
  have HL := Lib.hid hN
  have HS := Lib.hid h
  clear hN h
  go_enter Try.func22, Try.ntmps22
  go_wp2_with fail
  go_loopw [5, 6] (fun C I wr => ∃ (i q : Nat), i ≤ N ∧ q ≤ i ∧ I = .int .i64 i ∧ C = .int .i64 q ∧ Hid (q = cntX (L.take i) x) ∧ wr = w) (fun _ I _ => N - (intOf I).toNat)
  case atStart => exact ⟨0, 0, Nat.zero_le _, Nat.le_refl _, rfl, rfl, Lib.hid (by simp [cntX]), rfl⟩
  case round =>
    obtain ⟨i, q, hiN, hqi, rfl, rfl, HQ, hwr⟩ := hrel
    subst hwr
    by_cases hlt : i < N
    · have hli : (i : Int) < (N : Int) := by omega
      have hi0 : 0 ≤ (i : Int) := by omega
      obtain ⟨bx, ox, rfl, hbx, hcx⟩ := HS.out.intsH (by rw [HL.out]; omega)
      have r0 := hcx i (by rw [HL.out]; exact hlt)
      have hzb : bx < wr.heap.size := by omega
      obtain ⟨y, hy⟩ : ∃ y, L.getD i 0 = y := ⟨_, rfl⟩
      have HT := Lib.hid (cntX_take L x i (by rw [HL.out]; exact hlt))
      rw [hy] at r0 HT
      have Hwi := Lib.hid (show IntKind.i64.wrap ((i : Int) + 1) = ((i + 1 : Nat) : Int) by rw [IntWalk.i64_in _ (by omega)]; omega)
      have Hwq := Lib.hid (show IntKind.i64.wrap ((q : Int) + 1) = ((q + 1 : Nat) : Int) by rw [IntWalk.i64_in _ (by omega)]; omega)
      clear hcx hy
      by_cases he : y = x
      · have hbe : (y == x) = true := by rw [he]; exact beq_self_eq_true _
        have HQ2 := Lib.hid (show q + 1 = cntX (L.take (i + 1)) x by rw [HT.out, ← HQ.out, if_pos he])
        clear he
        go_upto_region 6 with fail
        clear r0
        have hwq := Hwq.out
        go_upto_region 4 with fail
        clear hwq
        have hwi := Hwi.out
        go_wp2_with fail
        go_roundw
        case rel => exact ⟨i + 1, q + 1, by omega, by omega, by go_num, by go_num, HQ2, trivial⟩
        case measure => simp [intOf]; omega
      · have hbe : (y == x) = false := beq_eq_false_iff_ne.2 he
        have HQ2 := Lib.hid (show q = cntX (L.take (i + 1)) x by rw [HT.out, ← HQ.out, if_neg he]; rfl)
        clear he
        go_upto_region 4 with fail
        clear r0
        have hwi := Hwi.out
        go_wp2_with fail
        go_roundw
        case rel => exact ⟨i + 1, q, by omega, by omega, by go_num, by go_num, HQ2, trivial⟩
        case measure => simp [intOf]; omega
    · obtain rfl : i = N := by omega
      have HQ2 := Lib.hid (show q = cntX L x by rw [HQ.out, List.take_of_length_le (by rw [HL.out]; exact Nat.le_refl _)])
      go_wp2_with fail
      go_ret
      exact ⟨by rw [← HQ2.out]; rfl, rfl⟩
def pickN (a : Int) (n : Nat) : Nat := ((a.tmod n + n).tmod n).toNat
theorem pick16 (a : Int) : (a.tmod 16 + 16).tmod 16 = ((pickN a 16 : Nat) : Int) ∧ pickN a 16 < 16 ∧ -(16 : Int) < a.tmod 16 ∧ a.tmod 16 < 16 := by
  have h1 : (0 : Int) < 16 := by omega
  have h2 := Int.lt_tmod_of_pos a h1
  have h3 := Int.tmod_lt_of_pos a h1
  have h4 : 0 ≤ (a.tmod 16 + 16).tmod 16 := Int.tmod_nonneg _ (by omega)
  have h5 := Int.tmod_lt_of_pos (a.tmod 16 + 16) h1
  have e : pickN a 16 = ((a.tmod 16 + 16).tmod 16).toNat := rfl
  exact ⟨by rw [e]; omega, by rw [e]; omega, h2, h3⟩
def mosN (a : Int) : Nat := pickN a 16 + 1
theorem mosN_le (a : Int) : 1 ≤ mosN a ∧ mosN a ≤ 64 ∧ mosN a ≤ 16 := by
  have := (pick16 a).2.1
  unfold mosN
  omega
def MadeQ (m : Nat) (l : List Int) (w : World) (e : Ending) (w' : World) : Prop := ∃ g S, e = .returned (.pointer (some ⟨g, 0, none⟩)) ∧ HA w' g (addTo (newH m) l l.length) S ∧ Hid (∀ k, S k → w.heap.size ≤ k) ∧ Below w.heap.size w w'
set_option maxRecDepth 100000 in
theorem made_walk (p : Int) (l : List Int) (N : Nat) (a : Option Addr) (c : Nat) (w : World) (hN : l.length = N) (hNm : N ≤ 400) (hl : Sl w w.heap.size a (i64s l)) (ha : ∀ x, a = some x → x.block < w.heap.size ∨ l = []) :
    Calls Try.prog 21 #[.int .i64 p, .slice a N c] w (MadeQ (mosN p) l w) := by
  obtain ⟨hq, hq2, hq3, hq4⟩ := pick16 p
  have KN := newH_walk (mosN p) w (mosN_le p).1 (mosN_le p).2.1
  have HOK := Lib.hid (newH_ok (mosN_le p).1 (mosN_le p).2.1)
  unfold MadeQ
  unfold mosN at *
  generalize pickN p 16 = j at *
  rw [show ((j + 1 : Nat) : Int) = 1 + (j : Int) from by omega] at KN
  unfold NewHQ at KN
  have HK := Lib.hid KN
  obtain ⟨hw1, hw2⟩ : IntKind.i64.wrap (p.tmod 16 + 16) = p.tmod 16 + 16 ∧ IntKind.i64.wrap (1 + (j : Int)) = 1 + (j : Int) := ⟨IntWalk.i64_in _ (by omega), IntWalk.i64_in _ (by omega)⟩
  have hq5 : (p.tmod 16 + 16).tmod 16 = (j : Int) := hq
  have HN := Lib.hid hN
  have HS := Lib.hid hl
  have HAa := Lib.hid ha
  clear hq hq2 hq3 hq4 KN hN hl ha
  go_enter Try.func21, Try.ntmps21
  go_wp2_with fail
  refine HK.out.mono ?_
  rintro e w0 ⟨g, S, rfl, A0, hZ, b0⟩
  by_cases h0 : l = []
  · have hN0 : N = 0 := by rw [← HN.out, h0]; rfl
    subst hN0
    have KA := Lib.hid (show Calls Try.prog 13 #[.pointer (some ⟨g, 0, none⟩), .slice a 0 c] w0 (HQ g S (addTo (newH (j + 1)) l 0) (.int .i64 0) w0) from by
      obtain ⟨m0, m1, hgl⟩ := A0.cells
      have g1 : (((newH (j + 1)).m : Int) == 0) = false := beq_eq_false_iff_ne.2 (by show ((j + 1 : Nat) : Int) ≠ 0; omega)
      have hs0 : ((newH (j + 1)).s : Int) = 0 := rfl
      rw [hs0] at m1
      generalize ((newH (j + 1)).m : Int) = mm at *
      have HA0 := Lib.hid A0
      clear A0 HK hw1 hw2 hq5 HOK HS HAa b0 hZ
      go_enter Try.func13, Try.ntmps13
      go_wp2_with fail
      go_loopw [28] (fun I wr => I = .int .i64 0 ∧ wr = w0) (fun I _ => 0)
      case atStart => exact ⟨rfl, rfl⟩
      case round =>
        obtain ⟨rfl, hwr⟩ := hrel
        subst hwr
        go_wp2_with fail
        go_ret
        exact ⟨rfl, S, HA0.out, Mvs.refl _ _⟩)
    unfold HQ at KA
    clear hw1 hw2 hq5 HK
    go_wp2_with fail
    refine KA.out.mono ?_
    rintro e w1 ⟨rfl, S1, A1, M1⟩
    have hB := b0.trans (M1.low hZ.out b0.size)
    have hZ1 := Lib.hid (fun k hk => M1.low2 hZ.out b0.size k hk)
    have A1' : HA w1 g (addTo (newH (j + 1)) l l.length) S1 := by rw [HN.out]; exact A1
    clear KA A1
    go_wp2_with fail
    go_ret
    exact ⟨g, S1, rfl, A1', hZ1, hB⟩
  · have hapt : Apt w0 S a (i64s l) := ⟨(HS.out.below b0 (Nat.le_refl _)).grow b0.size, fun x hx => by
      have := (HAa.out x hx).resolve_right h0
      exact ⟨fun hS => by have := hZ.out _ hS; omega, by have := b0.size; omega⟩⟩
    have KA := Lib.hid (add_ha 0 l N a c (newH (j + 1)) g S w0 HN.out (by omega) HOK.out hapt A0)
    unfold HQ at KA
    clear hw1 hw2 hq5 HK hapt A0 h0
    go_wp2_with fail
    refine KA.out.mono ?_
    rintro e w1 ⟨rfl, S1, A1, M1⟩
    have hB := b0.trans (M1.low hZ.out b0.size)
    have hZ1 := Lib.hid (fun k hk => M1.low2 hZ.out b0.size k hk)
    rw [← HN.out] at A1
    clear KA
    go_wp2_with fail
    go_ret
    exact ⟨g, S1, rfl, A1, hZ1, hB⟩
def wL : List Ta := [⟨3, 2, 1⟩, ⟨1, 2, 0⟩]
end Go.Proofs.Ythghnpopcnnidaa
