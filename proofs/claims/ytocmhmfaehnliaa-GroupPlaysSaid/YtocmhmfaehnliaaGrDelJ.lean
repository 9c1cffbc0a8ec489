/- slices.DeleteFunc at []api.Member by (*headgate/group.Group).Join$1. -/
import Derived.Test.YtocmhmfaehnliaaGr
import Derived.BigQuiet
import Derived.Deep.Cut
namespace Go.Proofs.Ytocmhmfaehnliaa
open Go.RowKit Vm
set_option linter.unusedVariables false
set_option linter.unusedSimpArgs false

def CapJ (w : World) (pb gb : Nat) (x : Int) : Prop := w.cell? ⟨pb, 0, none⟩ = some (.int .i64 x) ∧ gb < w.heap.size
theorem CapJ.keep {w w' : World} {pb gb : Nat} {x : Int} {a : Option Addr} (h : CapJ w pb gb x) (hz : w.heap.size ≤ w'.heap.size) (hm : Mva w w' a) (h1 : ∀ x, a = some x → x.block ≠ pb) (h2 : ∀ x, a = some x → x.block ≠ gb) : CapJ w' pb gb x :=
  ⟨(World.cell?_of_block (a := ⟨pb, 0, none⟩) (hm pb (cell_lt h.1) h1)).trans h.1, Nat.lt_of_lt_of_le h.2 hz⟩
theorem CapJ.below {w w' : World} {pb gb : Nat} {x : Int} (h : CapJ w pb gb x) (hb : Below w.heap.size w w') : CapJ w' pb gb x :=
  ⟨(hb.cell (cell_lt h.1)).trans h.1, Nat.lt_of_lt_of_le h.2 hb.size⟩
set_option maxRecDepth 100000 in
theorem clJ_walk (x : Int) (v : Mb) (pb gb : Nat) (w : World) (b : Bool) (hb : (v.k == x) = b) (hC : CapJ w pb gb x) :
    Calls Try.prog 44 #[.agg #[.int .i64 v.i, .int .i64 v.k, .int .i64 v.d], .pointer (some ⟨pb, 0, none⟩)] w fun e w' => e = .returned (.bool b) ∧ Below w.heap.size w w' := by
  have hal := balloc w (.cells #[.int .i64 v.i, .int .i64 v.k, .int .i64 v.d] 49)
  have X1 := Whole.new w 49 #[.int .i64 v.i, .int .i64 v.k, .int .i64 v.d]
  have C1 := hC.below hal
  have HB := Lib.hid hb
  clear hC hb
  go_enter Try.func44, Try.ntmps44
  go_upto_region 1 with fail
  obtain ⟨w1, hw1⟩ : ∃ w1, w1 = w.alloc (.cells #[.int .i64 v.i, .int .i64 v.k, .int .i64 v.d] 49) := ⟨_, rfl⟩
  rw [← hw1] at hal X1 C1 ⊢
  clear hw1
  obtain ⟨c0, c1⟩ := C1
  have x0 := X1.cell 0
  have x1 := X1.cell 1
  have x2 := X1.cell 2
  simp only [List.getElem?_toArray, List.getElem?_cons_zero, List.getElem?_cons_succ] at x0 x1 x2
  go_wp2_with fail
  go_ret
  exact ⟨by first | rfl | (rw [← HB.out]; rfl) | (rw [HB.out]), hal⟩
def IxJPost (x : Int) (l : List Mb) (N : Nat) (w : World) (e : Ending) (w' : World) : Prop :=
  (∃ k : Nat, k < N ∧ Hid (∀ p, p < k → ¬ ByP (byW x) l p) ∧ Hid (ByP (byW x) l k) ∧ e = .returned (.int .i64 k) ∧ Below w.heap.size w w') ∨
  (Hid (∀ p, p < N → ¬ ByP (byW x) l p) ∧ e = .returned (.int .i64 (-1)) ∧ Below w.heap.size w w')
set_option maxRecDepth 100000 in
set_option maxHeartbeats 4000000 in
theorem ixJ_walk (x : Int) (l : List Mb) (N : Nat) (a : Option Addr) (c B pb gb : Nat) (w : World) (hN : l.length = N) (hNm : N ≤ 1000) (hC : CapJ w pb gb x) (h : Sl w B a (mbCells l)) (hB : B ≤ w.heap.size) :
    Calls Try.prog 53 #[.slice a N c, .func (.func 44) #[] #[.pointer (some ⟨pb, 0, none⟩)]] w (IxJPost x l N w) := by
  have HNe := Lib.hid hN
  have HC := Lib.hid hC
  clear hN hC
  go_enter Try.func53, Try.ntmps53
  go_wp2_with fail
  go_loopw [8] (fun I wr => ∃ k : Nat, k ≤ N ∧ I = .int .i64 k ∧ Hid (∀ p, p < k → ¬ ByP (byW x) l p) ∧ Below w.heap.size w wr) (fun I _ => N - (intOf I).toNat)
  case atStart => exact ⟨0, by omega, rfl, Lib.hid (fun p hp => by omega), Below.refl _ _⟩
  case round =>
    obtain ⟨k, hk, rfl, HL, hbw⟩ := hrel
    by_cases hlt : k < N
    · have hil : k < l.length := by rw [HNe.out]; exact hlt
      obtain ⟨b1, o1, rfl, hb1, hc⟩ := (h.below hbw hB).mb (by omega)
      obtain ⟨r0, r1, r2⟩ := hc k hil
      have C2 := HC.out.below hbw
      have hz1 : b1 < wr.heap.size := by have := hbw.size; omega
      by_cases he : ByP (byW x) l k
      · have HF := Lib.hid (clJ_walk x (l.getD k mb0) pb gb wr true he C2)
        have HE := Lib.hid he
        clear hc he C2
        generalize hx : l.getD k mb0 = v at *
        have HX := Lib.hid hx
        clear hx
        obtain ⟨xo, xl, xs⟩ := v
        simp only at r0 r1 r2 HF
        go_wp2_with fail
        refine HF.out.mono ?_
        rintro e w5 ⟨rfl, g5⟩
        have b5 := hbw.trans (g5.mono hbw.size)
        go_wp2_with fail
        go_ret
        exact .inl ⟨k, hlt, HL, HE, rfl, b5⟩
      · have HF := Lib.hid (clJ_walk x (l.getD k mb0) pb gb wr false (byP_not he) C2)
        have HL2 := Lib.hid (show ∀ p, p < k + 1 → ¬ ByP (byW x) l p from fun p hp => by
          rcases Nat.lt_or_ge p k with h1 | h1
          · exact HL.out p h1
          · rw [show p = k from by omega]; exact he)
        clear hc he C2
        generalize l.getD k mb0 = v at *
        obtain ⟨xo, xl, xs⟩ := v
        simp only at r0 r1 r2 HF
        go_wp2_with fail
        refine HF.out.mono ?_
        rintro e w5 ⟨rfl, g5⟩
        have b5 := hbw.trans (g5.mono hbw.size)
        go_wp2_with fail
        go_roundw
        case rel => exact ⟨k + 1, by omega, by go_num, HL2, b5⟩
        case measure => simp [intOf]; omega
    · obtain rfl : k = N := by omega
      go_wp2_with fail
      go_ret
      exact .inr ⟨HL, rfl, hbw⟩
set_option maxRecDepth 100000 in
set_option maxHeartbeats 8000000 in
theorem delJ_walk (x : Int) (l : List Mb) (N : Nat) (a : Option Addr) (c base pb gb : Nat) (w : World) (hN : l.length = N) (hNm : N ≤ 1000) (hC : CapJ w pb gb x)
    (hown : w.ownsRow base 49 3 (.slice a N c) N (mbCells l)) (hbase : base ≤ w.heap.size) (hpa : ∀ x, a = some x → x.block ≠ pb) (hga : ∀ x, a = some x → x.block ≠ gb) :
    Calls Try.prog 48 #[.slice a N c, .func (.func 44) #[] #[.pointer (some ⟨pb, 0, none⟩)]] w (MbDel base a (keepP (byW x) l) w) := by
  have HI := Lib.hid (ixJ_walk x l N a c w.heap.size pb gb w hN hNm hC (ownN_sl hown) (Nat.le_refl _))
  unfold IxJPost at HI
  have HNe := Lib.hid hN
  have HC := Lib.hid hC
  have HO := Lib.hid hown
  have hcap := ownN_cap hown
  have hNc := hcap.2
  clear hN hC hown hcap
  go_enter Try.func48, Try.ntmps48
  go_wp2_with fail
  refine HI.out.mono ?_
  rintro e w1 (⟨k, hk, HL, HF, rfl, g1⟩ | ⟨HL, rfl, g1⟩)
  · have own1 := own_keep HO.out g1
    have b1 : Below base w w1 := g1.mono hbase
    have M1 := Lib.hid (Mva.below a g1)
    have HS := Lib.hid (delM_start HNe.out hk HL.out HF.out)
    obtain ⟨g, rfl, hgb, hgl, _⟩ := ownN_at own1 (by omega)
    have hpg : g ≠ pb := hpa _ rfl
    have hgg : g ≠ gb := hga _ rfl
    have HPA := Lib.hid hpa
    have HGA := Lib.hid hga
    have hwk : IntKind.i64.wrap ((k : Int) + 1) = ((k + 1 : Nat) : Int) := by rw [IntWalk.i64_in _ (by omega)]; omega
    have hk1 : ((k : Int) == -1) = false := beq_eq_false_iff_ne.2 (by omega)
    clear HI hpa hga
    go_wp2_with fail
    go_loopw [5, 6] (fun I J wr => ∃ (i j : Nat) (X : List Mb), j ≤ N ∧ i < j ∧ i < N ∧ I = .int .i64 i ∧ J = .int .i64 j ∧ Hid (DelM (byW x) l X N i j) ∧ wr.ownsRow base 49 3 (.slice (some ⟨g, 0, none⟩) N c) N (mbCells X) ∧ Below base w wr ∧ Hid (Mva w wr (some ⟨g, 0, none⟩))) (fun _ J _ => N - (intOf J).toNat)
    case atStart => exact ⟨k, k + 1, l, by omega, by omega, by omega, rfl, by go_num, HS, own1, b1, M1⟩
    case round =>
      obtain ⟨i, j, X, hjN, hij, hiN, rfl, rfl, HD, own, hb, HM⟩ := hrel
      by_cases hlt : j < N
      · have hlt2 : (j : Int) < (N : Int) := by omega
        have hi2 : (i : Int) < (N : Int) := by omega
        have hj0 : 0 ≤ (j : Int) := by omega
        have hi0 : 0 ≤ (i : Int) := by omega
        have hil : j < l.length := by rw [HNe.out]; exact hlt
        have hXl : j < X.length := by rw [HD.out.1]; exact hlt
        have hXi : i < X.length := by rw [HD.out.1]; exact hiN
        have hwi : IntKind.i64.wrap ((i : Int) + 1) = ((i + 1 : Nat) : Int) := by rw [IntWalk.i64_in _ (by omega)]; omega
        have hwj : IntKind.i64.wrap ((j : Int) + 1) = ((j + 1 : Nat) : Int) := by rw [IntWalk.i64_in _ (by omega)]; omega
        have hbz := hb.size
        have C0 := HC.out.keep hbz HM.out HPA.out HGA.out
        obtain ⟨g', e, hgb', hgl', hfz, hcc⟩ := ownN_at own (by omega)
        injection e with e
        injection e with e1 _ _
        subst e1
        have hxe := HD.out.2.2 j (Nat.le_refl _) hlt
        have hca := mbCells_at X j hXl
        have r0 := hcc _ _ hca.1
        have r1 := hcc _ _ hca.2.1
        have r2 := hcc _ _ hca.2.2
        rw [hxe] at r0 r1 r2
        obtain ⟨v, hx⟩ : ∃ v, l.getD j mb0 = v := ⟨_, rfl⟩
        rw [hx] at r0 r1 r2
        have hal := balloc wr (.cells #[.int .i64 v.i, .int .i64 v.k, .int .i64 v.d] 49)
        have V1 := Whole.new wr 49 #[.int .i64 v.i, .int .i64 v.k, .int .i64 v.d]
        have own1 := own_keep own hal
        have b1 := hb.trans (hal.mono (Nat.le_trans hbase hbz))
        have C1 := C0.below hal
        have HXe := Lib.hid hx
        have MM := Lib.hid (HM.out.trans (Mva.below _ hal) hbz)
        clear hxe hca hx hcc C0 HM
        go_upto_region 8 with fail
        obtain ⟨w2, hw2⟩ : ∃ w2, w2 = wr.alloc (.cells #[.int .i64 v.i, .int .i64 v.k, .int .i64 v.d] 49) := ⟨_, rfl⟩
        rw [← hw2] at hal V1 own1 b1 C1 MM ⊢
        clear hw2 r0 r1 r2 own hb
        have hz2 := hal.size
        have v0 := V1.cell 0
        have v1 := V1.cell 1
        have v2 := V1.cell 2
        simp only [List.getElem?_toArray, List.getElem?_cons_zero, List.getElem?_cons_succ] at v0 v1 v2
        by_cases hf : ByP (byW x) l j
        · have HW := Lib.hid (clJ_walk x v pb gb w2 true (by rw [← HXe.out]; exact hf) C1)
          have HD2 := Lib.hid (delM_drop HD.out HNe.out hlt hf)
          clear hf C1
          go_wp2_with fail
          refine HW.out.mono ?_
          rintro e w3 ⟨rfl, g3⟩
          have own3 := own_keep own1 g3
          have b3 := b1.trans (g3.mono (by omega))
          have M3 := Lib.hid (MM.out.trans (Mva.below _ g3) b1.size)
          clear own1 v0 v1 v2 MM
          go_wp2_with fail
          go_roundw
          case rel => exact ⟨i, j + 1, X, by omega, by omega, hiN, rfl, by go_num, HD2, own3, b3, M3⟩
          case measure => simp [intOf]; omega
        · have HW := Lib.hid (clJ_walk x v pb gb w2 false (by rw [← HXe.out]; exact byP_not hf) C1)
          have HD2 := Lib.hid (delM_keep HD.out HNe.out hlt hij hf)
          clear hf C1
          go_wp2_with fail
          refine HW.out.mono ?_
          rintro e w3 ⟨rfl, g3⟩
          have own3 := own_keep own1 g3
          have V3 := V1.keep g3
          have b3 := b1.trans (g3.mono (by omega))
          have M3 := MM.out.trans (Mva.below _ g3) b1.size
          have hz3 := g3.size
          clear own1 v0 v1 v2 MM
          have v0 := V3.cell 0
          have v1 := V3.cell 1
          have v2 := V3.cell 2
          simp only [List.getElem?_toArray, List.getElem?_cons_zero, List.getElem?_cons_succ] at v0 v1 v2
          have hvl := V3.lt
          obtain ⟨g', e, _, hgl3, hfz3, hcc⟩ := ownN_at own3 (by omega)
          injection e with e
          injection e with e1 _ _
          subst e1
          have hca := mbCells_at X i hXi
          have s0 := hcc _ _ hca.1
          have s1 := hcc _ _ hca.2.1
          have s2 := hcc _ _ hca.2.2
          have f0 := hfz3 (i * 3)
          have f1 := hfz3 (i * 3 + 1)
          have f2 := hfz3 (i * 3 + 2)
          have own5 := mb_store3 own3 hXi v
          have b5 := ((b3.setCell (p := ⟨g, i * 3, none⟩) hgb (.int .i64 v.i)).setCell (p := ⟨g, i * 3 + 1, none⟩) hgb (.int .i64 v.k)).setCell (p := ⟨g, i * 3 + 2, none⟩) hgb (.int .i64 v.d)
          have M5 := Lib.hid (((M3.set (i * 3) (.int .i64 v.i)).set (i * 3 + 1) (.int .i64 v.k)).set (i * 3 + 2) (.int .i64 v.d))
          clear hca hcc hfz3 own3 hfz M3
          go_wp2_with fail
          go_roundw
          case rel => exact ⟨i + 1, j + 1, X.set i v, by omega, by omega, by omega, by go_num, by go_num, by rw [← HXe.out]; exact HD2, own5, b5, M5⟩
          case measure => simp [intOf]; omega
      · have hlt2 : ¬ (j : Int) < (N : Int) := by omega
        have HD3 := Lib.hid (show X.take i = keepP (byW x) l from by rw [HD.out.2.1, List.take_of_length_le (by rw [HNe.out]; omega)])
        have hbz := hb.size
        have hic : i ≤ c := by omega
        have hin : i ≤ N := by omega
        have hi0 : 0 ≤ (i : Int) := by omega
        have hiN2 : (i : Int) ≤ (N : Int) := by omega
        obtain ⟨g', e, _, hgl', hfz, hcc⟩ := ownN_at own (by omega)
        injection e with e
        injection e with e1 _ _
        subst e1
        have hXL : (mbCells X).length = N * 3 := by rw [mbCells_length, HD.out.1]
        have hzv : ∀ w, (zeroValue 49).run Try.prog w = .ok (.agg #[.int .i64 0, .int .i64 0, .int .i64 0]) w := fun w => by kernel_rfl
        have hcl := fun ty c' => run_clear_recs (P := Try.prog) wr 38 49 ty _ 3 Try.underlying38 hzv (by rfl) (by omega) (fun v hv => by simp [Value.cells] at hv; rcases hv with rfl | rfl | rfl <;> rfl) g (i * 3) (N - i) c' (by omega) (fun j hj => by
          have hlt3 : i * 3 + j < (mbCells X).length := by rw [hXL]; omega
          rw [hcc (i * 3 + j) _ (List.getElem?_eq_getElem hlt3)]; rfl) (fun j hj => hfz _)
        obtain ⟨vs, hvl, hvs⟩ := hcl 0 (c - i)
        have HVL := Lib.hid hvl
        have HXL := Lib.hid hXL
        have OWN := Lib.hid own
        clear hcl hcc hfz hvl hXL own
        go_wp2_with (simp only [hvs])
        go_ret
        have hXi : (X.take i).length = i := by rw [List.length_take, HD.out.1]; omega
        have own3 := ownN_short (ownN_setCells vs wr (mbCells X) (i * 3) OWN.out (by rw [HVL.out, HXL.out]; omega)) (show i ≤ N by omega)
        have hfin : (putAt (mbCells X) (i * 3) vs).take (i * 3) = mbCells (keepP (byW x) l) := by
          rw [putAt_eq _ _ _ (by rw [HVL.out, HXL.out]; omega), List.append_assoc, List.take_append_of_le_length (by rw [List.length_take, HXL.out]; omega), List.take_take, Nat.min_self, ← mbCells_take, HD3.out]
        rw [hfin] at own3
        refine ⟨c, by rw [← HD3.out, hXi]; rfl, ?_, below_setCells0 hgb vs (i * 3) wr hb, HM.out.setCells vs (i * 3)⟩
        rw [← HD3.out, hXi, HD3.out]
        exact own3
  · have own1 := own_keep HO.out g1
    have HD := Lib.hid (keepP_none (fun p hp => HL.out p (by rw [← HNe.out]; exact hp)))
    have M1 := Mva.below a g1
    clear HI
    go_wp2_with fail
    go_ret
    exact ⟨c, by rw [HD.out, HNe.out]; rfl, by rw [HD.out, HNe.out]; exact own1, g1.mono hbase, M1⟩
set_option maxRecDepth 100000 in
theorem remJ_walk (x : Int) (G : Gr) (g pb : Nat) (a : Option Addr) (c : Nat) (b : Option Addr) (d : Nat) (w : World) (hNm : G.L.length ≤ 1000) (h : GrW w g G a c b d) (hC : CapJ w pb g x) (hpa : ∀ x, a = some x → x.block ≠ pb) :
    Calls Try.prog 40 #[.pointer (some ⟨g, 0, none⟩), .func (.func 44) #[] #[.pointer (some ⟨pb, 0, none⟩)]] w fun e w' => e = .returned (.tuple #[]) ∧ ∃ c', GrW w' g { G with L := keepP (byW x) G.L } a c' b d ∧ Mvs w w' (SF g a b) (SF g a b) := by
  have HD := Lib.hid (delJ_walk x G.L G.L.length a c 0 pb g w rfl hNm hC h.rowL (Nat.zero_le _) hpa h.neA)
  unfold MbDel at HD
  have HG := Lib.hid h
  obtain ⟨m0, m1, m2, m3, m4, m5, hfz⟩ := h.six
  have f4 := hfz 4
  clear h hC hpa hfz
  generalize hD : keepP (byW x) G.L = D at *
  go_enter Try.func40, Try.ntmps40
  go_wp2_with fail
  refine HD.out.mono ?_
  rintro e w1 ⟨c1, rfl, own1, b1, M1⟩
  have hg1 : w1.heap[g]? = w.heap[g]? := M1 g HG.out.lt HG.out.neA
  have hW1 : Whole w1 g _ _ := hg1.trans HG.out.box
  have k4 := hW1.cell 4
  have z4 := hW1.frozen 4
  simp only [List.getElem?_toArray, List.getElem?_cons_zero, List.getElem?_cons_succ] at k4
  have hfin := Lib.hid (HG.out.setL (D := D) hg1 (fun x hx => M1 x.block (own_low HG.out.rowO x hx).2 (fun y hy e => HG.out.neAB y x hy hx e)) own1)
  have hmv := Lib.hid ((Mva.mvs (g := g) (b := b) M1 b1).setG (.inl rfl) 4 (.slice a D.length c1))
  clear m0 m1 m2 m3 m4 m5 f4 own1 b1 M1 hg1 hW1
  go_wp2_with fail
  go_end0
  exact ⟨by first | rfl | trivial, c1, hfin.out, hmv.out⟩
end Go.Proofs.Ytocmhmfaehnliaa
