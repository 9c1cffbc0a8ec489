/- The walks of heavy's find, first, count. -/
import Derived.Test.YthghnpopcnnidaaHvRar
import Derived.Maps.AppendAt
import Derived.IntWalk
namespace Go.Proofs.Ythghnpopcnnidaa
open Go.RowKit Vm
set_option linter.unusedVariables false
set_option linter.unusedSimpArgs false

def CapH (w : World) (pb : Nat) (x : Int) : Prop := w.cell? ⟨pb, 0, none⟩ = some (.int .i64 x)
theorem CapH.below {w w' : World} {pb : Nat} {x : Int} (h : CapH w pb x) (hb : Below w.heap.size w w') : CapH w' pb x := (hb.cell (cell_lt h)).trans h
set_option maxRecDepth 100000 in
theorem clH_walk (x : Int) (v : Ta) (pb : Nat) (w : World) (b : Bool) (hb : (v.k == x) = b) (hC : CapH w pb x) :
    Calls Try.prog 34 #[.agg #[.int .i64 v.k, .int .i64 v.n, .int .i64 v.o], .pointer (some ⟨pb, 0, none⟩)] w fun e w' => e = .returned (.bool b) ∧ Below w.heap.size w w' := by
  have hal := balloc w (.cells #[.int .i64 v.k, .int .i64 v.n, .int .i64 v.o] 45)
  have X1 := Whole.new w 45 #[.int .i64 v.k, .int .i64 v.n, .int .i64 v.o]
  have C1 := hC.below hal
  have HB := Lib.hid hb
  clear hC hb
  go_enter Try.func34, Try.ntmps34
  go_upto_region 1 with fail
  obtain ⟨w1, hw1⟩ : ∃ w1, w1 = w.alloc (.cells #[.int .i64 v.k, .int .i64 v.n, .int .i64 v.o] 45) := ⟨_, rfl⟩
  rw [← hw1] at hal X1 C1 ⊢
  clear hw1
  have c0 : w1.cell? ⟨pb, 0, none⟩ = some (.int .i64 x) := C1
  have x0 := X1.cell 0
  simp only [List.getElem?_toArray, List.getElem?_cons_zero, List.getElem?_cons_succ] at x0
  go_wp2_with fail
  go_ret
  exact ⟨by first | rfl | (rw [← HB.out]; rfl) | (rw [HB.out]), hal⟩
def IxHPost (x : Int) (l : List Ta) (N : Nat) (w : World) (e : Ending) (w' : World) : Prop :=
  (∃ k : Nat, k < N ∧ Hid (KeysNo l x k) ∧ Hid ((l.getD k ta0).k = x) ∧ e = .returned (.int .i64 k) ∧ Below w.heap.size w w') ∨
  (Hid (KeysNo l x N) ∧ e = .returned (.int .i64 (-1)) ∧ Below w.heap.size w w')
set_option maxRecDepth 100000 in
set_option maxHeartbeats 4000000 in
theorem ixH_walk (x : Int) (l : List Ta) (N : Nat) (a : Option Addr) (c B pb : Nat) (w : World) (hN : l.length = N) (hNm : N ≤ 1000) (hC : CapH w pb x) (h : Sl w B a (taCells l)) (hB : B ≤ w.heap.size) :
    Calls Try.prog 33 #[.slice a N c, .func (.func 34) #[] #[.pointer (some ⟨pb, 0, none⟩)]] w (IxHPost x l N w) := by
  have HNe := Lib.hid hN
  have HC := Lib.hid hC
  clear hN hC
  go_enter Try.func33, Try.ntmps33
  go_wp2_with fail
  go_loopw [8] (fun I wr => ∃ k : Nat, k ≤ N ∧ I = .int .i64 k ∧ Hid (KeysNo l x k) ∧ Below w.heap.size w wr) (fun I _ => N - (intOf I).toNat)
  case atStart => exact ⟨0, by omega, rfl, Lib.hid (fun p hp => by omega), Below.refl _ _⟩
  case round =>
    obtain ⟨k, hk, rfl, HL, hbw⟩ := hrel
    by_cases hlt : k < N
    · have hil : k < l.length := by rw [HNe.out]; exact hlt
      obtain ⟨b1, o1, rfl, hb1, hc⟩ := (h.below hbw hB).ta (by omega)
      obtain ⟨r0, r1, r2⟩ := hc k hil
      have C2 := HC.out.below hbw
      have hz1 : b1 < wr.heap.size := by have := hbw.size; omega
      by_cases he : (l.getD k ta0).k = x
      · have HF := Lib.hid (clH_walk x (l.getD k ta0) pb wr true (beq_iff_eq.2 he) C2)
        have HE := Lib.hid he
        clear hc he C2
        generalize hx : l.getD k ta0 = v at *
        have HX := Lib.hid hx
        clear hx
        obtain ⟨xo, xl, xs⟩ := v
        simp only at r0 r1 r2 HF
        go_wp2_with fail
        refine HF.out.mono ?_
        rintro e w5 ⟨rfl, g5⟩
        have b5 := hbw.trans (g5.mono hbw.size)
        go_wp2_with fail
        go_ret
        exact .inl ⟨k, hlt, HL, by rw [HX.out]; exact HE, rfl, b5⟩
      · have HF := Lib.hid (clH_walk x (l.getD k ta0) pb wr false (beq_eq_false_iff_ne.2 he) C2)
        have HL2 := Lib.hid (show KeysNo l x (k + 1) from fun p hp => by
          rcases Nat.lt_or_ge p k with h1 | h1
          · exact HL.out p h1
          · rw [show p = k from by omega]; exact he)
        clear hc he C2
        generalize l.getD k ta0 = v at *
        obtain ⟨xo, xl, xs⟩ := v
        simp only at r0 r1 r2 HF
        go_wp2_with fail
        refine HF.out.mono ?_
        rintro e w5 ⟨rfl, g5⟩
        have b5 := hbw.trans (g5.mono hbw.size)
        go_wp2_with fail
        go_roundw
        case rel => exact ⟨k + 1, by omega, by go_num, HL2, b5⟩
        case measure => simp [intOf]; omega
    · obtain rfl : k = N := by omega
      go_wp2_with fail
      go_ret
      exact .inr ⟨HL, rfl, hbw⟩
def findI (L : List Ta) (x : Int) : Int := if hasK L x = true then (idxK L x : Nat) else -1
set_option maxRecDepth 100000 in
theorem find_walk (x : Int) (H : Hv) (g : Nat) (a : Option Addr) (c : Nat) (w : World) (hNm : H.L.length ≤ 1000) (h : HvW w g H a c) :
    Calls Try.prog 26 #[.pointer (some ⟨g, 0, none⟩), .int .i64 x] w fun e w' => e = .returned (.int .i64 (findI H.L x)) ∧ Below w.heap.size w w' := by
  have hal := balloc w (.cells #[.int .i64 x] 3)
  have hp : CapH (w.alloc (.cells #[.int .i64 x] 3)) w.heap.size x := (Whole.new w 3 #[.int .i64 x]).cell 0
  have h1 := h.keep hal
  have HI := Lib.hid (ixH_walk x H.L H.L.length a c _ w.heap.size _ rfl hNm hp (ownN_sl h1.row) (Nat.le_refl _))
  unfold IxHPost at HI
  obtain ⟨m0, m1, m2, hfz⟩ := h1.three
  have hgl := h1.lt
  have HF := Lib.hid (show ∀ k, k < H.L.length → KeysNo H.L x k → (H.L.getD k ta0).k = x → findI H.L x = (k : Int) from fun k hk h1 h2 => by
    obtain ⟨e1, e2⟩ := idxK_eq hk h1 h2
    unfold findI; rw [if_pos e1, e2])
  have HF2 := Lib.hid (show KeysNo H.L x H.L.length → findI H.L x = -1 from fun h1 => by unfold findI; rw [if_neg (by rw [hasK_none h1]; decide)])
  clear h h1 hp m0 m1 hfz
  go_enter Try.func26, Try.ntmps26
  go_wp2_with fail
  refine HI.out.mono ?_
  rintro e w1 (⟨k, hk, h1, h2, rfl, b1⟩ | ⟨h1, rfl, b1⟩)
  · have E := HF.out k hk h1.out h2.out
    have B := gtrans hal b1
    clear HI HF HF2 h2
    go_wp2_with fail
    go_ret
    exact ⟨by rw [E]; rfl, B⟩
  · have E := HF2.out h1.out
    have B := gtrans hal b1
    clear HI HF HF2
    go_wp2_with fail
    go_ret
    exact ⟨by rw [E]; rfl, B⟩
set_option maxRecDepth 100000 in
set_option maxHeartbeats 4000000 in
theorem first_walk (L : List Ta) (N : Nat) (a : Option Addr) (c : Nat) (w : World) (hN : L.length = N) (hNm : N ≤ 1000) (h0 : 0 < N) (h : Sl w w.heap.size a (taCells L)) :
    Calls Try.prog 27 #[.slice a N c, .func (.func 28) #[] #[]] w fun e w' => e = .returned (.int .i64 (firstR L : Nat)) ∧ Below w.heap.size w w' := by
  have HN := Lib.hid hN
  have HS := Lib.hid h
  have HFR := Lib.hid (show firstR L = firstTo L N from by unfold firstR; rw [hN])
  have HLt := Lib.hid (fun i hi => firstTo_lt (L := L) (by omega) i hi)
  clear hN h
  go_enter Try.func27, Try.ntmps27
  go_wp2_with fail
  go_loopw [5, 9] (fun Bs I wr => ∃ k q : Nat, k ≤ N ∧ q < N ∧ I = .int .i64 k ∧ Bs = .int .i64 q ∧ Hid (q = firstTo L k) ∧ Below w.heap.size w wr) (fun _ I _ => N - (intOf I).toNat)
  case atStart => exact ⟨0, 0, by omega, h0, rfl, rfl, Lib.hid rfl, Below.refl _ _⟩
  case round =>
    obtain ⟨k, q, hk, hq, rfl, rfl, HQ, hb⟩ := hrel
    by_cases hlt : k < N
    · have hlt2 : (k : Int) < (N : Int) := by omega
      have hk0 : 0 ≤ (k : Int) := by omega
      have hq2 : (q : Int) < (N : Int) := by omega
      have hq0 : 0 ≤ (q : Int) := by omega
      obtain ⟨b1, o1, rfl, hb1, hc⟩ := (HS.out.below hb (Nat.le_refl _)).ta (by rw [HN.out]; exact h0)
      obtain ⟨r0, r1, r2⟩ := hc k (by rw [HN.out]; exact hlt)
      obtain ⟨s0, s1, s2⟩ := hc q (by rw [HN.out]; exact hq)
      have HT := Lib.hid (show firstTo L (k + 1) = if lessR (L.getD k ta0) (L.getD q ta0) = true then k else q from by
        show (if _ then _ else _) = _
        rw [← HQ.out])
      have hz1 : b1 < wr.heap.size := by have := hb.size; omega
      have KR := rar_walk (L.getD k ta0) (L.getD q ta0) wr.drew
      have hde := rarI_less (L.getD k ta0) (L.getD q ta0)
      obtain ⟨x, hx⟩ : ∃ x, L.getD k ta0 = x := ⟨_, rfl⟩
      obtain ⟨y, hy⟩ : ∃ y, L.getD q ta0 = y := ⟨_, rfl⟩
      rw [hx] at r0 r1 r2 KR hde HT
      rw [hy] at s0 s1 s2 KR hde HT
      obtain ⟨cv, hcv⟩ : ∃ cv, rarI x y = cv := ⟨_, rfl⟩
      rw [hcv] at KR hde
      obtain ⟨dl, hdl⟩ : ∃ dl, lessR x y = dl := ⟨_, rfl⟩
      rw [hdl] at hde HT
      unfold taV at KR
      have HK := Lib.hid KR
      have Bd := Lib.hid (hb.trans (below_drewN w.heap.size wr 1))
      obtain ⟨xa, xb, xc⟩ := x
      obtain ⟨ya, yb, yc⟩ := y
      simp only at r0 r1 r2 s0 s1 s2 HK
      clear hc hx hy KR hcv hdl
      cases dl with
      | true =>
        have hc1 : cv < 0 := by simpa using hde
        rw [if_pos rfl] at HT
        clear hde
        go_wp2_with fail
        go_region_with (go_at_call 28; refine HK.out.mono ?_; rintro e w5 ⟨rfl, g5⟩)
        all_goals
          have b5 := Bd.out.trans (g5.below.mono Bd.out.size)
          clear HK r0 r1 r2 s0 s1 s2 g5
          go_wp2_with fail
          go_roundw
          case rel => exact ⟨k + 1, k, by omega, hlt, by go_num, rfl, Lib.hid HT.out.symm, b5⟩
          case measure => simp [intOf]; omega
      | false =>
        have hc1 : ¬ cv < 0 := by simpa using hde
        rw [if_neg (by decide)] at HT
        clear hde
        go_wp2_with fail
        go_region_with (go_at_call 28; refine HK.out.mono ?_; rintro e w5 ⟨rfl, g5⟩)
        all_goals
          have b5 := Bd.out.trans (g5.below.mono Bd.out.size)
          clear HK r0 r1 r2 s0 s1 s2 g5
          go_wp2_with fail
          go_roundw
          case rel => exact ⟨k + 1, q, by omega, hq, by go_num, rfl, Lib.hid HT.out.symm, b5⟩
          case measure => simp [intOf]; omega
    · obtain rfl : k = N := by omega
      have HE := Lib.hid (HFR.out.trans HQ.out.symm)
      go_wp2_with fail
      go_ret
      exact ⟨by rw [HE.out]; rfl, hb⟩
/-- What a call leaves. -/
def HvP (g : Nat) (a : Option Addr) (H' : Hv) (E : Value) (w : World) (e : Ending) (w' : World) : Prop := e = .returned E ∧ ∃ a' c', HvW w' g H' a' c' ∧ Mvs w w' (HF g a) (HF g a')
set_option maxRecDepth 100000 in
set_option maxHeartbeats 8000000 in
theorem count_walk (K : Nat) (x : Int) (H : Hv) (g : Nat) (a : Option Addr) (c : Nat) (w : World) (hK : K ≤ 2000) (hok : HOk H K) (h : HvW w g H a c) :
    Calls Try.prog 24 #[.pointer (some ⟨g, 0, none⟩), .int .i64 x] w (HvP g a (countH H x) (.tuple #[]) w) := by
  obtain ⟨i0, hi, hz0, hz1, hz2⟩ := info_parts info_ta
  have hm0 := hok.m0
  have hm1 := hok.m1
  have hln := hok.len
  have hsK := hok.sK
  have HT := Lib.hid hok.t
  have hgl := h.lt
  have hww : IntKind.i64.wrap ((H.s : Int) + 1) = (H.s : Int) + 1 := IntWalk.i64_in _ (by omega)
  have e1s : ((H.s + 1 : Nat) : Int) = (H.s : Int) + 1 := by omega
  obtain ⟨m0, m1, m2, hfz⟩ := h.three
  have f1 := hfz 1
  have H1 := h.setS (H.s + 1)
  have M1 := (Mvs.refl w (HF g a)).setG (.inl rfl) 1 (.int .i64 ((H.s + 1 : Nat) : Int))
  rw [e1s] at H1 M1
  clear hfz h hok e1s
  go_enter Try.func24, Try.ntmps24
  go_upto_region 1 with fail
  obtain ⟨w1, hw1⟩ : ∃ w1, w1 = w.setCell ⟨g, 1, none⟩ (.int .i64 ((H.s : Int) + 1)) := ⟨_, rfl⟩
  rw [← hw1] at M1 H1 ⊢
  clear hw1 m0 m1 m2 f1 hww
  have KF := Lib.hid (find_walk x { H with s := H.s + 1 } g a c w1 (by show H.L.length ≤ 1000; omega) H1)
  have HG1 := Lib.hid H1
  have hgl1 := H1.lt
  obtain ⟨N, hN⟩ : ∃ N, H.L.length = N := ⟨_, rfl⟩
  have HN := Lib.hid hN
  rw [hN] at hln
  clear hN H1
  simp only at KF
  by_cases hh : hasK H.L x = true
  · obtain ⟨hi1, hi2⟩ := idxK_lt hh
    have hfi : findI H.L x = (idxK H.L x : Int) := by unfold findI; rw [if_pos hh]
    have HCo := Lib.hid (show countH H x = { H with s := H.s + 1, L := H.L.set (idxK H.L x) (incT (H.L.getD (idxK H.L x) ta0)) } from by unfold countH tally; rw [if_pos hh])
    rw [hfi] at KF
    have htn := HT.out _ (getD_memT hi1)
    obtain ⟨i, hie⟩ : ∃ i, idxK H.L x = i := ⟨_, rfl⟩
    rw [hie] at hi1 KF HCo htn
    rw [HN.out] at hi1
    have hi3 : (i : Int) < (N : Int) := by omega
    have hi0 : 0 ≤ (i : Int) := by omega
    obtain ⟨v, hv⟩ : ∃ v, H.L.getD i ta0 = v := ⟨_, rfl⟩
    rw [hv] at htn HCo
    have HV := Lib.hid hv
    have hw : IntKind.i64.wrap (v.n + 1) = v.n + 1 := IntWalk.i64_in _ (by omega)
    have Hw := Lib.hid hw
    clear hh hi2 hfi hie hv hw HT
    go_wp2_with fail
    refine KF.out.mono ?_
    rintro e w2 ⟨rfl, b2⟩
    have H2 := HG1.out.keep b2
    have M2 := M1.trans (Mvs.below _ b2)
    have k2 := H2.three.2.2.1
    have hrow := H2.row
    simp only at k2 hrow
    rw [HN.out] at k2 hrow
    obtain ⟨ga, rfl, _, hgal, hfa, hcc⟩ := ownN_at hrow (by omega)
    have r1 := hcc _ _ (taCells_at H.L i (by rw [HN.out]; exact hi1)).2.1
    rw [HV.out] at r1
    have z1 := hfa (i * 3 + 1)
    have H3 := Lib.hid (H2.inc i (v.n + 1) (by show i < H.L.length; rw [HN.out]; exact hi1))
    have M3 := Lib.hid (M2.setG (g := ga) (.inr ⟨_, rfl, rfl⟩) (i * 3 + 1) (.int .i64 (v.n + 1)))
    have hgl2 := H2.lt
    have hwn := Hw.out
    clear KF hcc hfa hrow H2 M2
    go_wp2_with fail
    go_end0
    refine ⟨by first | rfl | trivial, _, c, ?_, M3.out⟩
    rw [HCo.out]
    have := H3.out
    simp only [HV.out] at this
    exact this
  · have hh : hasK H.L x = false := by simpa using hh
    have hfi : findI H.L x = -1 := by unfold findI; rw [if_neg (by rw [hh]; decide)]
    rw [hfi] at KF
    by_cases hl : N < H.m
    · have HCo := Lib.hid (show countH H x = { H with s := H.s + 1, L := H.L ++ [⟨x, 1, 0⟩] } from by unfold countH tally; rw [if_neg (by rw [hh]; decide), if_pos (by rw [HN.out]; exact hl)])
      have hl2 : (N : Int) < (H.m : Int) := by omega
      clear hh hfi HT
      go_wp2_with fail
      refine KF.out.mono ?_
      rintro e w2 ⟨rfl, b2⟩
      have HG2 := Lib.hid (fun n => (HG1.out.keep b2).keep (below_drewN _ w2 n))
      have MG2 := Lib.hid (fun n => (M1.trans (Mvs.below _ b2)).trans (Mvs.below (HF g a) (below_drewN _ w2 n)))
      have k0 := (HG1.out.keep b2).three.1
      have k2 := (HG1.out.keep b2).three.2.2.1
      simp only at k0 k2
      rw [HN.out] at k2
      have hgl2 := (HG1.out.keep b2).lt
      clear KF M1
      go_wp2_with fail
      go_quiet (fail)
      obtain ⟨w3, hw3⟩ : ∃ w3, w3 = w2.drewN nq := ⟨_, rfl⟩
      have H3 := HG2.out nq
      have M3 := MG2.out nq
      rw [← hw3] at H3 M3 ⊢
      clear hw3 HG2 MG2 k0 k2 hgl2
      have k2 := H3.three.2.2.1
      have z2 := H3.three.2.2.2 2
      have hrow := H3.row
      have hgl3 := H3.lt
      simp only at k2 hrow
      rw [HN.out] at k2 hrow
      go_wp2_with (at_builtin; refine wpList_append_own_at _ rfl _ _ 28 rfl 0 45 i0 (.agg #[.int .i64 0, .int .i64 0, .int .i64 0]) 3 24 Try.underlying28 hi hz0 hz1 hz2 rfl (by decide) _ N _ rfl (hrow.alloc _) ⟨w3.heap.size, 0, none⟩ 1 1 [.int .i64 x, .int .i64 1, .int .i64 0] rfl rfl ?c1 ?c2 ?c3 ?c4 ?c5 ?_)
      case c1 =>
        intro j u hj
        match j, hj with
        | 0, hj => simp at hj; subst hj; simp [Addr.add]
        | 1, hj => simp at hj; subst hj; simp [Addr.add]
        | 2, hj => simp at hj; subst hj; simp [Addr.add]
      case c2 => intro u hu; simp at hu; rcases hu with rfl | rfl | rfl <;> rfl
      case c3 => unfold maxLen; omega
      case c4 => omega
      case c5 => exact Nat.zero_le _
      intro v' w4 hown' hgrow _ hat
      obtain ⟨a4, c4, rfl⟩ := ownN_shape hown'
      have hzA : ∀ o, (w3.alloc o).heap.size = w3.heap.size + 1 := fun o => by simp
      obtain ⟨gm, rfl, _, hgm, _, _⟩ := ownN_at hown' (by omega)
      have hkey : ∀ q, q < w3.heap.size → (∀ y, a = some y → y.block ≠ q) → w4.heap[q]? = w3.heap[q]? := fun q hq hx => by
        refine (hgrow.block q (by rw [hzA]; omega) (fun h => ?_)).trans ((balloc w3 _).block q hq)
        cases a with
        | none => cases h
        | some y => injection h with h; exact hx y rfl h.symm
      have hgat : (∃ y, a = some y ∧ y.block = gm) ∨ w3.heap.size ≤ gm := by
        rcases hat with h | h
        · cases a with
          | none => cases h
          | some y => injection h with h; exact .inl ⟨y, rfl, h.symm⟩
        · have h5 : gm = w3.heap.size + 1 := by
            have h6 : some gm = some (w3.heap.size + 1) := h
            exact Option.some.inj h6
          exact .inr (by omega)
      have hb0 : Below 0 w3 w4 := ⟨hgrow.os, hgrow.tape, hgrow.output, by have := hgrow.size; rw [hzA] at this; omega, fun k hk => by omega⟩
      have hML : (H.L ++ [(⟨x, 1, 0⟩ : Ta)]).length = N + 1 := by rw [List.length_append, HN.out]; rfl
      have hg4 := hkey g H3.lt H3.neA
      have H5 := H3.setL (D := H.L ++ [⟨x, 1, 0⟩]) (a' := some ⟨gm, 0, none⟩) (c' := c4) hg4 (by rw [hML, taCells_snoc]; exact hown')
      rw [hML] at H5
      have M5 := Lib.hid (show Mvs w (w4.setCell ⟨g, 2, none⟩ (.slice (some ⟨gm, 0, none⟩) (N + 1) c4)) (HF g a) (HF g (some ⟨gm, 0, none⟩)) from by
        refine Mvs.setG (M3.trans ⟨hb0, fun q hq hS => hkey q hq (fun y hy e => hS (.inr ⟨y, hy, e⟩)), fun q hq => ?_⟩) (.inl rfl) 2 _
        rcases hq with h | ⟨y, hy, rfl⟩
        · exact .inl (.inl h)
        · injection hy with hy
          subst hy
          rcases hgat with ⟨y, hy, h⟩ | h
          · exact .inl (.inr ⟨y, hy, h⟩)
          · exact .inr h)
      have H5' := Lib.hid H5
      have hW4 : Whole w4 g _ _ := hg4.trans H3.box
      have n2 := hW4.cell 2
      have y2 := hW4.frozen 2
      simp only [List.getElem?_toArray, List.getElem?_cons_zero, List.getElem?_cons_succ] at n2
      have hgl4 := hW4.lt
      clear hat hgat hkey hown' hgrow hb0 hW4 hg4 hrow k2 z2 H5 H3 M3 hML
      go_wp2_with fail
      go_end0
      refine ⟨by first | rfl | trivial, some ⟨gm, 0, none⟩, c4, ?_, M5.out⟩
      rw [HCo.out]
      exact H5'.out
    · have hNm : N = H.m := by omega
      have HCo := Lib.hid (show countH H x = { H with s := H.s + 1, L := H.L.set (firstR H.L) (newT (H.L.getD (firstR H.L) ta0) x) } from by unfold countH tally; rw [if_neg (by rw [hh]; decide), if_neg (by rw [HN.out]; omega)])
      have hl2 : ¬ (N : Int) < (H.m : Int) := by omega
      have hfl : firstR H.L < N := by rw [← HN.out]; exact firstTo_lt (by rw [HN.out]; omega) _ (Nat.le_refl _)
      have htn := HT.out _ (getD_memT (by rw [HN.out]; exact hfl))
      obtain ⟨i, hie⟩ : ∃ i, firstR H.L = i := ⟨_, rfl⟩
      rw [hie] at hfl htn HCo
      have hi3 : (i : Int) < (N : Int) := by omega
      have hi0 : 0 ≤ (i : Int) := by omega
      obtain ⟨v, hv⟩ : ∃ v, H.L.getD i ta0 = v := ⟨_, rfl⟩
      rw [hv] at htn HCo
      have HV := Lib.hid hv
      have HI := Lib.hid hie
      have Hw := Lib.hid (show IntKind.i64.wrap (v.n + 1) = v.n + 1 from IntWalk.i64_in _ (by omega))
      have hN0 : 0 < N := by omega
      clear hh hfi HT hie hv hNm
      go_wp2_with fail
      refine KF.out.mono ?_
      rintro e w2 ⟨rfl, b2⟩
      have HG2 := Lib.hid (fun n => (HG1.out.keep b2).keep (below_drewN _ w2 n))
      have MG2 := Lib.hid (fun n => (M1.trans (Mvs.below _ b2)).trans (Mvs.below (HF g a) (below_drewN _ w2 n)))
      have k0 := (HG1.out.keep b2).three.1
      have k2 := (HG1.out.keep b2).three.2.2.1
      simp only at k0 k2
      rw [HN.out] at k2
      have hgl2 := (HG1.out.keep b2).lt
      clear KF M1
      go_wp2_with fail
      go_quiet (fail)
      obtain ⟨w3, hw3⟩ : ∃ w3, w3 = w2.drewN nq := ⟨_, rfl⟩
      have H3 := HG2.out nq
      have M3 := MG2.out nq
      rw [← hw3] at H3 M3 ⊢
      clear hw3 HG2 MG2 k0 k2 hgl2
      have k2 := H3.three.2.2.1
      have hrow := H3.row
      have hgl3 := H3.lt
      simp only at k2 hrow
      rw [HN.out] at k2 hrow
      obtain ⟨ga, rfl, _, hgal, _, _⟩ := ownN_at hrow (by omega)
      have H3d := Lib.hid (H3.keep (below_drewN _ w3 1))
      have M3d := Lib.hid (M3.trans (Mvs.below (HF g (some ⟨ga, 0, none⟩)) (below_drewN _ w3 1)))
      have KB := first_walk H.L N (some ⟨ga, 0, none⟩) c w3.drew HN.out (by omega) hN0 ((ownN_sl hrow).below (below_drewN _ w3 1) (Nat.le_refl _))
      rw [HI.out] at KB
      have HKB := Lib.hid KB
      clear KB hrow H3 M3
      go_wp2_with fail
      go_region_with (go_at_call 27; refine HKB.out.mono ?_; rintro e w5 ⟨rfl, b5⟩; have q2 := (H3d.out.keep b5).three.2.2.1; simp only at q2; rw [HN.out] at q2)
      all_goals
        have H5 := H3d.out.keep b5
        have M5 := M3d.out.trans (Mvs.below _ b5)
        have hrow5 := H5.row
        simp only at hrow5
        rw [HN.out] at hrow5
        obtain ⟨ga', e', _, hgal5, hfa5, hcc5⟩ := ownN_at hrow5 (by omega)
        injection e' with e'
        injection e' with e1 _ _
        subst e1
        have hat5 := taCells_at H.L i (by rw [HN.out]; exact hfl)
        have r0 := hcc5 _ _ hat5.1
        have r1 := hcc5 _ _ hat5.2.1
        have r2 := hcc5 _ _ hat5.2.2
        rw [HV.out] at r0 r1 r2
        have z0 := hfa5 (i * 3)
        have z1 := hfa5 (i * 3 + 1)
        have z2 := hfa5 (i * 3 + 2)
        have hwn := Hw.out
        have H6 := Lib.hid ((H5.put i (newT v x) (by show i < H.L.length; rw [HN.out]; exact hfl)).keep (below_drewN _ _ 1))
        have M6 := Lib.hid ((((M5.setG (g := ga) (.inr ⟨_, rfl, rfl⟩) (i * 3) (.int .i64 x)).setG (g := ga) (.inr ⟨_, rfl, rfl⟩) (i * 3 + 1) (.int .i64 (v.n + 1))).setG (g := ga) (.inr ⟨_, rfl, rfl⟩) (i * 3 + 2) (.int .i64 v.n)).trans (Mvs.below _ (below_drewN _ _ 1)))
        unfold newT at H6
        simp only at H6
        clear HKB hcc5 hfa5 hrow5 H5 M5 hat5 k2 q2 b5
        go_wp2_with fail
        go_region
        all_goals
          go_end0
          refine ⟨by first | rfl | trivial, some ⟨ga, 0, none⟩, c, ?_, M6.out⟩
          rw [HCo.out]
          exact H6.out
end Go.Proofs.Ythghnpopcnnidaa
