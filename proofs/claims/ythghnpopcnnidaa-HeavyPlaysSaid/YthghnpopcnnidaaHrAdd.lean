/- The document's Add, Count. -/
import Derived.Test.YthghnpopcnnidaaHrOne
namespace Go.Proofs.Ythghnpopcnnidaa
open Go.RowKit Vm
set_option linter.unusedVariables false
set_option linter.unusedSimpArgs false

theorem RA.cells {w : World} {g : Nat} {H : Hv} {S : Nat → Prop} (h : RA w g H S) : w.cell? ⟨g, 0, none⟩ = some (.int .i64 (H.m : Int)) ∧ w.cell? ⟨g, 1, none⟩ = some (.int .i64 (H.s : Int)) ∧ g < w.heap.size := by
  obtain ⟨a, c, h, rfl⟩ := h
  exact ⟨h.three.1, h.three.2.1, h.lt⟩
theorem one_ra (K : Nat) (x : Int) (H : Hv) (g : Nat) (S : Nat → Prop) (w : World) (hK : K ≤ 2000) (hok : HOk H K) (h : RA w g H S) :
    Calls Try.prog 25 #[.pointer (some ⟨g, 0, none⟩), .int .i64 x] w (RvQ g S (countH H x) (.tuple #[]) w) := by
  obtain ⟨a, c, h, rfl⟩ := h
  exact (one_walk K x H g a c w hK hok h).mono fun e w' ⟨he, a', c', hw, hm⟩ => ⟨he, HF g a', ⟨a', c', hw, rfl⟩, hm⟩
set_option maxRecDepth 100000 in
set_option maxHeartbeats 4000000 in
theorem radd_ra (K : Nat) (l : List Int) (N : Nat) (al : Option Addr) (cl : Nat) (H : Hv) (g : Nat) (S : Nat → Prop) (w : World) (hN : l.length = N) (hK : K + N ≤ 2000) (hok : HOk H K) (hl : l = [] ∨ Apt w S al (i64s l)) (h : RA w g H S) :
    Calls Try.prog 14 #[.pointer (some ⟨g, 0, none⟩), .slice al N cl] w (RvQ g S (addTo H l N) (.int .i64 0) w) := by
  have HN := Lib.hid hN
  have HOK := Lib.hid (fun i => addTo_ok (l := l) hok i)
  have hsK := hok.sK
  have HL := Lib.hid hl
  obtain ⟨m0, m1, hgl⟩ := h.cells
  have HH := Lib.hid h
  have hw : IntKind.i64.wrap (1099511627776 - (H.s : Int)) = 1099511627776 - (H.s : Int) := IntWalk.i64_in _ (by omega)
  have g2 : ¬ 1099511627776 - (H.s : Int) < (N : Int) := by omega
  clear hN hok hl h hsK
  go_enter Try.func14, Try.ntmps14
  go_upto_region 3 with fail
  clear g2 hw m0 m1
  go_wp2_with fail
  go_loopw [5] (fun I wr => ∃ (k : Nat) (S' : Nat → Prop), k ≤ N ∧ I = .int .i64 k ∧ RA wr g (addTo H l k) S' ∧ Hid (l = [] ∨ Apt wr S' al (i64s l)) ∧ Mvs w wr S S') (fun I _ => N - (intOf I).toNat)
  case atStart => exact ⟨0, S, by omega, rfl, HH.out, HL, Mvs.refl _ _⟩
  case round =>
    obtain ⟨k, Sk, hk, rfl, A, q, M⟩ := hrel
    by_cases hlt : k < N
    · have hlt2 : (k : Int) < (N : Int) := by omega
      have hk0 : 0 ≤ (k : Int) := by omega
      have q0 : Apt wr Sk al (i64s l) := by
        rcases q.out with h | h
        · have := HN.out; rw [h] at this; simp at this; omega
        · exact h
      obtain ⟨b1, o1, rfl, hb1, hc⟩ := q0.1.intsH (by rw [HN.out]; omega)
      have r0 := hc k (by rw [HN.out]; exact hlt)
      have HE := Lib.hid (show addTo H l (k + 1) = countH (addTo H l k) (l.getD k 0) from rfl)
      have KC := one_ra (K + k) (l.getD k 0) (addTo H l k) g Sk wr (by omega) (HOK.out k) A
      rw [← HE.out] at KC
      unfold RvQ at KC
      have HKC := Lib.hid KC
      have Q0 := Lib.hid q0
      obtain ⟨x, hx⟩ : ∃ x, l.getD k 0 = x := ⟨_, rfl⟩
      rw [hx] at r0 HKC
      clear hc hx KC A q0
      go_wp2_with fail
      refine HKC.out.mono ?_
      rintro e w5 ⟨rfl, S5, A5, M5⟩
      have q5 := Lib.hid (Or.inr (a := l = []) (Q0.out.mvs M5))
      have M6 := M.trans M5
      clear HKC r0
      go_wp2_with fail
      go_roundw
      case rel => exact ⟨k + 1, S5, by omega, by go_num, A5, q5, M6⟩
      case measure => simp [intOf]; omega
    · obtain rfl : k = N := by omega
      go_wp2_with fail
      go_ret
      exact ⟨rfl, Sk, A, M⟩
theorem heldL {w W' w5 : World} {p q : Addr} {v0 v1 : Value} (h : W'.cell? p = some v0 ∧ W'.cell? q = some v1 ∧ Below w.heap.size w W') (b : Below W'.heap.size W' w5) :
    w5.cell? p = some v0 ∧ w5.cell? q = some v1 ∧ Below w.heap.size w w5 :=
  ⟨(b.cell (cell_lt h.1)).trans h.1, (b.cell (cell_lt h.2.1)).trans h.2.1, gtrans h.2.2 b⟩
set_option maxRecDepth 100000 in
set_option maxHeartbeats 8000000 in
theorem rcnt_ra (K : Nat) (x : Int) (H : Hv) (g : Nat) (S : Nat → Prop) (w : World) (hK : K ≤ 2000) (hok : HOk H K) (h : RA w g H S) :
    Calls Try.prog 16 #[.pointer (some ⟨g, 0, none⟩), .int .i64 x] w fun e w' => e = .returned (.tuple #[.int .i64 (loH H.L x), .int .i64 (hiH H.m H.L x)]) ∧ Below w.heap.size w w' := by
  obtain ⟨a, c, h, rfl⟩ := h
  have hm0 := hok.m0
  have hln := hok.len
  have hm1 := hok.m1
  have hsK := hok.sK
  have HT := Lib.hid hok.t
  have HG := Lib.hid h
  obtain ⟨m0, _, m2, _⟩ := h.three
  have HM0 := Lib.hid m0
  have HM2 := Lib.hid m2
  have HS := Lib.hid (ownN_sl h.row)
  have hgl := h.lt
  obtain ⟨N, hN⟩ : ∃ N, H.L.length = N := ⟨_, rfl⟩
  have HN := Lib.hid hN
  have KLw := Lib.hid (fun w' (h : RW w' g H a c) (h0 : 0 < N) => (by
    have h2 := h.three.2.2.1
    have hr := ownN_sl h.row
    rw [hN] at h2
    exact least_walk H.L N a c g w' hN (by omega) h0 h2 hr : Calls Try.prog 29 #[.pointer (some ⟨g, 0, none⟩)] w' fun e w'' => e = .returned (.int .i64 (firstR H.L : Nat)) ∧ Below w'.heap.size w' w''))
  rw [hN] at hln HM2
  clear hN h hok m0 m2
  go_enter Try.func16, Try.ntmps16
  go_wp2_with fail
  go_loopw [6] (fun I wr => ∃ k : Nat, k ≤ N ∧ I = .int .i64 k ∧ Hid (KeysNo H.L x k) ∧ Below w.heap.size w wr) (fun I _ => N - (intOf I).toNat)
  case atStart => exact ⟨0, by omega, rfl, Lib.hid (fun p hp => by omega), Below.refl _ _⟩
  case round =>
    obtain ⟨k, hk, rfl, HK, hb⟩ := hrel
    have m2 := (hb.cell hgl).trans HM2.out
    have hgw : g < wr.heap.size := by have := hb.size; omega
    have hbd := Lib.hid (fun nq => hb.trans (below_drewN w.heap.size wr nq))
    by_cases hlt : k < N
    · have hlt2 : (k : Int) < (N : Int) := by omega
      have hk0 : 0 ≤ (k : Int) := by omega
      obtain ⟨ba, oa, rfl, hba, hc⟩ := (HS.out.below hb (Nat.le_refl _)).ta (by rw [HN.out]; omega)
      obtain ⟨r0, r1, r2⟩ := hc k (by rw [HN.out]; exact hlt)
      have hmem := HT.out _ (getD_memT (show k < H.L.length by rw [HN.out]; exact hlt))
      obtain ⟨v, hv⟩ : ∃ v, H.L.getD k ta0 = v := ⟨_, rfl⟩
      rw [hv] at r0 r1 r2 hmem
      have HV := Lib.hid hv
      clear hc hv
      by_cases he : v.k = x
      · obtain ⟨e1, e2⟩ := idxK_eq (L := H.L) (x := x) (k := k) (by rw [HN.out]; exact hlt) HK.out (by rw [HV.out]; exact he)
        have HLo := Lib.hid (show loH H.L x = v.n - v.o ∧ hiH H.m H.L x = v.n from by unfold loH hiH; rw [if_pos e1, if_pos e1, e2, HV.out]; exact ⟨rfl, rfl⟩)
        have hwn : IntKind.i64.wrap (v.n - v.o) = v.n - v.o := IntWalk.i64_in _ (by omega)
        have Hwn := Lib.hid (show wrap64 (v.n - v.o) = v.n - v.o from IntWalk.wrap64_in _ (by omega))
        have hbe : (v.k == x) = true := by simpa using he
        obtain ⟨vk, vn, vo⟩ := v
        simp only at r0 r1 r2 hwn HLo hbe he Hwn
        clear e1 e2 hmem he
        go_wp2_with fail
        go_quiet (fail)
        clear r0 r1 r2 m2
        go_wp2_with fail
        go_ret2
        refine ⟨?_, hbd.out _⟩
        first | (rw [HLo.out.1, HLo.out.2]; done) | (rw [HLo.out.1, HLo.out.2, Hwn.out]) | (rw [HLo.out.1, HLo.out.2]; simp [hwn, Hwn.out])
      · have hbe : (v.k == x) = false := by simpa using he
        have HK1 := Lib.hid (show KeysNo H.L x (k + 1) from fun p hp => by
          by_cases e : p = k
          · subst e; rw [HV.out]; exact he
          · exact HK.out p (by omega))
        clear r1 r2 hmem
        go_wp2_with fail
        go_roundw
        case rel => exact ⟨k + 1, by omega, by go_num, HK1, hb⟩
        case measure => simp [intOf]; omega
    · obtain rfl : k = N := by omega
      have hh : hasK H.L x = false := hasK_none (by rw [HN.out]; exact HK.out)
      have k0 := (hb.cell hgl).trans HM0.out
      by_cases hl : k < H.m
      · have HLo := Lib.hid (show loH H.L x = 0 ∧ hiH H.m H.L x = 0 from by unfold loH hiH; rw [if_neg (by rw [hh]; decide), if_neg (by rw [hh]; decide), if_pos (by rw [HN.out]; exact hl)]; exact ⟨rfl, rfl⟩)
        have hl2 : (k : Int) < (H.m : Int) := by omega
        clear hh
        go_wp2_with fail
        go_quiet (fail)
        clear m2 k0
        go_wp2_with fail
        go_ret2
        exact ⟨by rw [HLo.out.1, HLo.out.2]; rfl, hbd.out _⟩
      · have hl2 : ¬ (k : Int) < (H.m : Int) := by omega
        have hfl : firstR H.L < k := by rw [← HN.out]; exact firstTo_lt (by rw [HN.out]; omega) _ (Nat.le_refl _)
        have HLo := Lib.hid (show loH H.L x = 0 ∧ hiH H.m H.L x = (H.L.getD (firstR H.L) ta0).n from by unfold loH hiH; rw [if_neg (by rw [hh]; decide), if_neg (by rw [hh]; decide), if_neg (by rw [HN.out]; exact hl)]; exact ⟨rfl, rfl⟩)
        obtain ⟨i, hie⟩ : ∃ i, firstR H.L = i := ⟨_, rfl⟩
        rw [hie] at hfl HLo KLw
        have hi3 : (i : Int) < (k : Int) := by omega
        have hi0 : 0 ≤ (i : Int) := by omega
        clear hh hie
        go_wp2_with fail
        go_quiet (fail)
        obtain ⟨w3, hw3⟩ : ∃ w3, w3 = wr.drewN nq := ⟨_, rfl⟩
        have B3 := hbd.out nq
        rw [← hw3] at B3 ⊢
        clear hw3 k0 m2 hbd hb hgw
        have m2 := (B3.cell hgl).trans HM2.out
        obtain ⟨ba, oa, rfl, hba, hc⟩ := (HS.out.below B3 (Nat.le_refl _)).ta (by rw [HN.out]; omega)
        obtain ⟨_, r1, _⟩ := hc i (by rw [HN.out]; exact hfl)
        obtain ⟨v, hv⟩ : ∃ v, (H.L.getD i ta0).n = v := ⟨_, rfl⟩
        rw [hv] at r1 HLo
        have KL3 := Lib.hid (fun n => KLw.out (w3.drewN n) (HG.out.keep (B3.trans (below_drewN w.heap.size w3 n))) (by omega))
        clear hc hv
        have hS0 : w3.drew.cell? ⟨g, 2, none⟩ = some (.slice (some ⟨ba, oa, none⟩) k c) ∧ w3.drew.cell? ⟨ba, oa + i * 3 + 1, none⟩ = some (.int .i64 v) ∧ Below w.heap.size w w3.drew := ⟨m2, r1, B3.drew⟩
        have KLs := Lib.hid (fun w' (hb : Below w.heap.size w w') => KLw.out w' (HG.out.keep hb) (by omega))
        go_wp2_with fail
        go_region_held3 (fun w' => w'.cell? ⟨g, 2, none⟩ = some (.slice (some ⟨ba, oa, none⟩) k c) ∧ w'.cell? ⟨ba, oa + i * 3 + 1, none⟩ = some (.int .i64 v) ∧ Below w.heap.size w w')
          (with_reducible assumption)
          (first | (go_at_call 29; refine (KLs.out _ (And.right (And.right (by with_reducible assumption)))).mono ?_; rintro e w5 ⟨rfl, b5⟩; have y := heldL (by with_reducible assumption) b5))
        all_goals
          have hfin := y.2.2
          clear hS0
          go_wp2_with fail
          go_ret2
          exact ⟨by rw [HLo.out.1, HLo.out.2]; rfl, hfin⟩
end Go.Proofs.Ythghnpopcnnidaa
