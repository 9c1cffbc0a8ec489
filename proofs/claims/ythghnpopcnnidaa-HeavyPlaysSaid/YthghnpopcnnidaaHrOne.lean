/- The document's one: a key. -/
import Derived.Test.YthghnpopcnnidaaHrLeast
namespace Go.Proofs.Ythghnpopcnnidaa
open Go.RowKit Vm
set_option linter.unusedVariables false
set_option linter.unusedSimpArgs false

set_option maxRecDepth 100000 in
set_option maxHeartbeats 8000000 in
theorem one_walk (K : Nat) (x : Int) (H : Hv) (g : Nat) (a : Option Addr) (c : Nat) (w : World) (hK : K ≤ 2000) (hok : HOk H K) (h : RW w g H a c) :
    Calls Try.prog 25 #[.pointer (some ⟨g, 0, none⟩), .int .i64 x] w (RvP g a (countH H x) (.tuple #[]) w) := by
  obtain ⟨i0, hi, hz0, hz1, hz2⟩ := info_parts info_ta
  have hm0 := hok.m0
  have hm1 := hok.m1
  have hln := hok.len
  have hsK := hok.sK
  have HT := Lib.hid hok.t
  have hgl := h.lt
  have hww : IntKind.i64.wrap ((H.s : Int) + 1) = (H.s : Int) + 1 := IntWalk.i64_in _ (by omega)
  have e1s : ((H.s + 1 : Nat) : Int) = (H.s : Int) + 1 := by omega
  obtain ⟨m0, m1, m2, hfz⟩ := h.three
  have f1 := hfz 1
  have H1 := h.setS (H.s + 1)
  have M1 := (Mvs.refl w (HF g a)).setG (.inl rfl) 1 (.int .i64 ((H.s + 1 : Nat) : Int))
  rw [e1s] at H1 M1
  clear hfz h hok e1s
  go_enter Try.func25, Try.ntmps25
  go_upto_region 1 with fail
  obtain ⟨w1, hw1⟩ : ∃ w1, w1 = w.setCell ⟨g, 1, none⟩ (.int .i64 ((H.s : Int) + 1)) := ⟨_, rfl⟩
  rw [← hw1] at M1 H1 ⊢
  clear hw1 m0 m1 m2 f1 hww
  have HG1 := Lib.hid H1
  have HM1 := Lib.hid M1
  have hgl1 := H1.lt
  obtain ⟨N, hN⟩ : ∃ N, H.L.length = N := ⟨_, rfl⟩
  have HN := Lib.hid hN
  rw [hN] at hln
  clear hN H1 M1
  go_wp2_with fail
  go_loopw [4] (fun I wr => ∃ k : Nat, k ≤ N ∧ I = .int .i64 k ∧ Hid (KeysNo H.L x k) ∧ Below w1.heap.size w1 wr) (fun I _ => N - (intOf I).toNat)
  case atStart => exact ⟨0, by omega, rfl, Lib.hid (fun p hp => by omega), Below.refl _ _⟩
  case round =>
    obtain ⟨k, hk, rfl, HK, hb⟩ := hrel
    have H2 := HG1.out.keep hb
    have HG2w := Lib.hid H2
    have M2 := Lib.hid (HM1.out.trans (Mvs.below _ hb))
    have k2 := H2.three.2.2.1
    have hrow := H2.row
    simp only at k2 hrow
    rw [HN.out] at k2 hrow
    have hgl2 := H2.lt
    clear H2
    by_cases hlt : k < N
    · have hlt2 : (k : Int) < (N : Int) := by omega
      have hk0 : 0 ≤ (k : Int) := by omega
      obtain ⟨ga, rfl, _, hgal, hfa, hcc⟩ := ownN_at hrow (by omega)
      have hat := taCells_at H.L k (by rw [HN.out]; exact hlt)
      have r0 := hcc _ _ hat.1
      have r1 := hcc _ _ hat.2.1
      have r2 := hcc _ _ hat.2.2
      have hmem := HT.out _ (getD_memT (show k < H.L.length by rw [HN.out]; exact hlt))
      obtain ⟨v, hv⟩ : ∃ v, H.L.getD k ta0 = v := ⟨_, rfl⟩
      rw [hv] at r0 r1 r2 hmem
      have HV := Lib.hid hv
      have z0 := hfa (k * 3)
      have z1 := hfa (k * 3 + 1)
      have z2 := hfa (k * 3 + 2)
      clear hat hcc hfa hrow hv
      by_cases he : v.k = x
      · obtain ⟨e1, e2⟩ := idxK_eq (L := H.L) (x := x) (k := k) (by rw [HN.out]; exact hlt) HK.out (by rw [HV.out]; exact he)
        have HCo := Lib.hid (show countH H x = { H with s := H.s + 1, L := H.L.set k ⟨x, v.n + 1, v.o⟩ } from by
          unfold countH tally; rw [if_pos e1, e2, HV.out]
          have : incT v = ⟨x, v.n + 1, v.o⟩ := by unfold incT; rw [← he]
          rw [this])
        have hwn : IntKind.i64.wrap (v.n + 1) = v.n + 1 := IntWalk.i64_in _ (by omega)
        have H6 := Lib.hid ((HG2w.out.put k ⟨x, v.n + 1, v.o⟩ (by show k < H.L.length; rw [HN.out]; exact hlt)).keep (below_drewN _ _ 1))
        have M6 := Lib.hid ((((M2.out.setG (g := ga) (.inr ⟨_, rfl, rfl⟩) (k * 3) (.int .i64 x)).setG (g := ga) (.inr ⟨_, rfl, rfl⟩) (k * 3 + 1) (.int .i64 (v.n + 1))).setG (g := ga) (.inr ⟨_, rfl, rfl⟩) (k * 3 + 2) (.int .i64 v.o)).trans (Mvs.below _ (below_drewN _ _ 1)))
        simp only at H6
        have hbe : (v.k == x) = true := by simpa using he
        obtain ⟨vk, vn, vo⟩ := v
        simp only at r0 r1 r2 hwn H6 M6 HCo hbe he
        subst he
        clear e1 e2 hmem hbe HG2w M2
        go_wp2_with fail
        go_region
        all_goals
          clear r0 r1 r2 z0 z1 z2 k2 hwn
          go_wp2_with fail
          go_end0
          refine ⟨by first | rfl | trivial, some ⟨ga, 0, none⟩, c, ?_, M6.out⟩
          rw [HCo.out]
          exact H6.out
      · have hbe : (v.k == x) = false := by simpa using he
        have HK1 := Lib.hid (show KeysNo H.L x (k + 1) from fun p hp => by
          by_cases e : p = k
          · subst e; rw [HV.out]; exact he
          · exact HK.out p (by omega))
        clear r1 r2 z0 z1 z2 hmem
        go_wp2_with fail
        go_roundw
        case rel => exact ⟨k + 1, by omega, by go_num, HK1, hb⟩
        case measure => simp [intOf]; omega
    · obtain rfl : k = N := by omega
      have hh : hasK H.L x = false := hasK_none (by rw [HN.out]; exact HK.out)
      have k0 := HG2w.out.three.1
      simp only at k0
      have HG2 := Lib.hid (fun n => HG2w.out.keep (below_drewN _ wr n))
      have MG2 := Lib.hid (fun n => M2.out.trans (Mvs.below (HF g a) (below_drewN _ wr n)))
      clear hrow
      by_cases hl : k < H.m
      · have HCo := Lib.hid (show countH H x = { H with s := H.s + 1, L := H.L ++ [⟨x, 1, 0⟩] } from by unfold countH tally; rw [if_neg (by rw [hh]; decide), if_pos (by rw [HN.out]; exact hl)])
        have hl2 : (k : Int) < (H.m : Int) := by omega
        clear hh HT M2 HG2w
        go_wp2_with fail
        go_quiet (fail)
        obtain ⟨w3, hw3⟩ : ∃ w3, w3 = wr.drewN nq := ⟨_, rfl⟩
        have H3 := HG2.out nq
        have M3 := MG2.out nq
        rw [← hw3] at H3 M3 ⊢
        clear hw3 HG2 MG2 k0 k2 hgl2
        have k2 := H3.three.2.2.1
        have z2 := H3.three.2.2.2 2
        have hrow := H3.row
        have hgl3 := H3.lt
        simp only at k2 hrow
        rw [HN.out] at k2 hrow
        go_wp2_with (at_builtin; refine wpList_append_own_at _ rfl _ _ 28 rfl 0 45 i0 (.agg #[.int .i64 0, .int .i64 0, .int .i64 0]) 3 24 Try.underlying28 hi hz0 hz1 hz2 rfl (by decide) _ k _ rfl (hrow.alloc _) ⟨w3.heap.size, 0, none⟩ 1 1 [.int .i64 x, .int .i64 1, .int .i64 0] rfl rfl ?c1 ?c2 ?c3 ?c4 ?c5 ?_)
        case c1 =>
          intro j u hj
          match j, hj with
          | 0, hj => simp at hj; subst hj; simp [Addr.add]
          | 1, hj => simp at hj; subst hj; simp [Addr.add]
          | 2, hj => simp at hj; subst hj; simp [Addr.add]
        case c2 => intro u hu; simp at hu; rcases hu with rfl | rfl | rfl <;> rfl
        case c3 => unfold maxLen; omega
        case c4 => omega
        case c5 => exact Nat.zero_le _
        intro v' w4 hown' hgrow _ hat
        obtain ⟨a4, c4, rfl⟩ := ownN_shape hown'
        have hzA : ∀ o, (w3.alloc o).heap.size = w3.heap.size + 1 := fun o => by simp
        obtain ⟨gm, rfl, _, hgm, _, _⟩ := ownN_at hown' (by omega)
        have hkey : ∀ q, q < w3.heap.size → (∀ y, a = some y → y.block ≠ q) → w4.heap[q]? = w3.heap[q]? := fun q hq hx => by
          refine (hgrow.block q (by rw [hzA]; omega) (fun h => ?_)).trans ((balloc w3 _).block q hq)
          cases a with
          | none => cases h
          | some y => injection h with h; exact hx y rfl h.symm
        have hgat : (∃ y, a = some y ∧ y.block = gm) ∨ w3.heap.size ≤ gm := by
          rcases hat with h | h
          · cases a with
            | none => cases h
            | some y => injection h with h; exact .inl ⟨y, rfl, h.symm⟩
          · have h5 : gm = w3.heap.size + 1 := by
              have h6 : some gm = some (w3.heap.size + 1) := h
              exact Option.some.inj h6
            exact .inr (by omega)
        have hb0 : Below 0 w3 w4 := ⟨hgrow.os, hgrow.tape, hgrow.output, by have := hgrow.size; rw [hzA] at this; omega, fun k hk => by omega⟩
        have hML : (H.L ++ [(⟨x, 1, 0⟩ : Ta)]).length = k + 1 := by rw [List.length_append, HN.out]; rfl
        have hg4 := hkey g H3.lt H3.neA
        have H5 := H3.setL (D := H.L ++ [⟨x, 1, 0⟩]) (a' := some ⟨gm, 0, none⟩) (c' := c4) hg4 (by rw [hML, taCells_snoc]; exact hown')
        rw [hML] at H5
        have M5 := Lib.hid (show Mvs w (w4.setCell ⟨g, 2, none⟩ (.slice (some ⟨gm, 0, none⟩) (k + 1) c4)) (HF g a) (HF g (some ⟨gm, 0, none⟩)) from by
          refine Mvs.setG (M3.trans ⟨hb0, fun q hq hS => hkey q hq (fun y hy e => hS (.inr ⟨y, hy, e⟩)), fun q hq => ?_⟩) (.inl rfl) 2 _
          rcases hq with h | ⟨y, hy, rfl⟩
          · exact .inl (.inl h)
          · injection hy with hy
            subst hy
            rcases hgat with ⟨y, hy, h⟩ | h
            · exact .inl (.inr ⟨y, hy, h⟩)
            · exact .inr h)
        have H5' := Lib.hid H5
        have hW4 : Whole w4 g _ _ := hg4.trans H3.box
        have n2 := hW4.cell 2
        have y2 := hW4.frozen 2
        simp only [List.getElem?_toArray, List.getElem?_cons_zero, List.getElem?_cons_succ] at n2
        have hgl4 := hW4.lt
        clear hat hgat hkey hown' hgrow hb0 hW4 hg4 hrow k2 z2 H5 H3 M3 hML
        go_wp2_with fail
        go_end0
        refine ⟨by first | rfl | trivial, some ⟨gm, 0, none⟩, c4, ?_, M5.out⟩
        rw [HCo.out]
        exact H5'.out
      · have HCo := Lib.hid (show countH H x = { H with s := H.s + 1, L := H.L.set (firstR H.L) (newT (H.L.getD (firstR H.L) ta0) x) } from by unfold countH tally; rw [if_neg (by rw [hh]; decide), if_neg (by rw [HN.out]; omega)])
        have hl2 : ¬ (k : Int) < (H.m : Int) := by omega
        have hfl : firstR H.L < k := by rw [← HN.out]; exact firstTo_lt (by rw [HN.out]; omega) _ (Nat.le_refl _)
        have htn := HT.out _ (getD_memT (by rw [HN.out]; exact hfl))
        have HFi := Lib.hid (show firstR H.L = firstR H.L from rfl)
        obtain ⟨i, hie⟩ : ∃ i, firstR H.L = i := ⟨_, rfl⟩
        have KLw := Lib.hid (fun w' (h : RW w' g { H with s := H.s + 1 } a c) => (by
          have h2 := h.three.2.2.1
          have hr := ownN_sl h.row
          simp only at h2 hr
          rw [HN.out] at h2
          have := least_walk H.L k a c g w' HN.out (by omega) (by omega) h2 hr
          rw [hie] at this
          exact this : Calls Try.prog 29 #[.pointer (some ⟨g, 0, none⟩)] w' fun e w'' => e = .returned (.int .i64 (i : Nat)) ∧ Below w'.heap.size w' w''))
        rw [hie] at hfl htn HCo
        have hi3 : (i : Int) < (k : Int) := by omega
        have hi0 : 0 ≤ (i : Int) := by omega
        obtain ⟨v, hv⟩ : ∃ v, H.L.getD i ta0 = v := ⟨_, rfl⟩
        rw [hv] at htn HCo
        have HV := Lib.hid hv
        have hwn : IntKind.i64.wrap (v.n + 1) = v.n + 1 := IntWalk.i64_in _ (by omega)
        have Hwn := Lib.hid hwn
        clear hh HT M2 HG2w hie hv htn HFi hwn
        go_wp2_with fail
        go_quiet (fail)
        obtain ⟨w3, hw3⟩ : ∃ w3, w3 = wr.drewN nq := ⟨_, rfl⟩
        have H3 := HG2.out nq
        have M3 := MG2.out nq
        rw [← hw3] at H3 M3 ⊢
        have KL3 := Lib.hid (KLw.out w3 H3)
        have H3 := Lib.hid H3
        have M3 := Lib.hid M3
        clear hw3 HG2 MG2 k0 k2 hgl2 KLw
        go_wp2_with fail
        refine KL3.out.mono ?_
        rintro e w5 ⟨rfl, b5⟩
        have H5 := H3.out.keep b5
        have M5 := M3.out.trans (Mvs.below _ b5)
        have q2 := H5.three.2.2.1
        have hrow5 := H5.row
        have hgl5 := H5.lt
        simp only at hrow5 q2
        rw [HN.out] at hrow5 q2
        obtain ⟨ga, rfl, _, hgal5, hfa5, hcc5⟩ := ownN_at hrow5 (by omega)
        have hat5 := taCells_at H.L i (by rw [HN.out]; exact hfl)
        have r0 := hcc5 _ _ hat5.1
        have r1 := hcc5 _ _ hat5.2.1
        have r2 := hcc5 _ _ hat5.2.2
        rw [HV.out] at r0 r1 r2
        have z0 := hfa5 (i * 3)
        have z1 := hfa5 (i * 3 + 1)
        have z2 := hfa5 (i * 3 + 2)
        have hwn := Hwn.out
        have H6 := Lib.hid ((H5.put i (newT v x) (by show i < H.L.length; rw [HN.out]; exact hfl)).keep (below_drewN _ _ 1))
        have M6 := Lib.hid ((((M5.setG (g := ga) (.inr ⟨_, rfl, rfl⟩) (i * 3) (.int .i64 x)).setG (g := ga) (.inr ⟨_, rfl, rfl⟩) (i * 3 + 1) (.int .i64 (v.n + 1))).setG (g := ga) (.inr ⟨_, rfl, rfl⟩) (i * 3 + 2) (.int .i64 v.n)).trans (Mvs.below _ (below_drewN _ _ 1)))
        unfold newT at H6
        simp only at H6
        clear KL3 hcc5 hfa5 hrow5 H5 M5 hat5 b5
        go_wp2_with fail
        go_region
        all_goals
          go_end0
          refine ⟨by first | rfl | trivial, some ⟨ga, 0, none⟩, c, ?_, M6.out⟩
          rw [HCo.out]
          exact H6.out
end Go.Proofs.Ythghnpopcnnidaa
