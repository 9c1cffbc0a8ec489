/- slices.DeleteFunc at []int by (*headgate/coop.Coop).Leave$1. -/
import Derived.Test.YtafibgekikjlhaaCo
import Derived.BigQuiet
import Derived.Deep.Cut
namespace Go.Proofs.Ytafibgekikjlhaa
open Go.RowKit Vm As
set_option linter.unusedVariables false
set_option linter.unusedSimpArgs false

def dropI (x : Int) (l : List Int) : List Int := l.filter fun m => !(m == x)
def IsAt (x : Int) (l : List Int) (p : Nat) : Prop := l.getD p 0 = x
theorem dropI_snoc_no {l : List Int} {x y : Int} (h : y = x) : dropI x (l ++ [y]) = dropI x l := by
  unfold dropI; rw [List.filter_append]; simp [h]
theorem dropI_snoc_yes {l : List Int} {x y : Int} (h : ¬ y = x) : dropI x (l ++ [y]) = dropI x l ++ [y] := by
  unfold dropI; rw [List.filter_append]; simp [h]
theorem dropI_none {x : Int} {l : List Int} (h : ∀ p, p < l.length → ¬ IsAt x l p) : dropI x l = l := by
  unfold dropI
  rw [List.filter_eq_self]
  intro y hy
  obtain ⟨i, hi, rfl⟩ := List.mem_iff_getElem.1 hy
  have := h i hi
  unfold IsAt at this
  rw [show l.getD i 0 = l[i] from by simp [List.getD, hi]] at this
  simpa using this
/-- How far a deletion is. -/
def DelC (x : Int) (l X : List Int) (N i j : Nat) : Prop := X.length = N ∧ X.take i = dropI x (l.take j) ∧ ∀ p, j ≤ p → p < N → X.getD p 0 = l.getD p 0
theorem delC_start {x : Int} {l : List Int} {N k : Nat} (hN : l.length = N) (hk : k < N) (h1 : ∀ p, p < k → ¬ IsAt x l p) (h2 : IsAt x l k) : DelC x l l N k (k + 1) := by
  refine ⟨hN, ?_, fun _ _ _ => rfl⟩
  rw [take_get l 0 k (by omega), dropI_snoc_no h2, dropI_none]
  intro p hp
  rw [List.length_take] at hp
  unfold IsAt
  rw [show (l.take k).getD p 0 = l.getD p 0 from by simp [List.getD, List.getElem?_take, show p < k by omega]]
  exact h1 p (by omega)
theorem delC_drop {x : Int} {l X : List Int} {N i j : Nat} (h : DelC x l X N i j) (hN : l.length = N) (hj : j < N) (hf : l.getD j 0 = x) : DelC x l X N i (j + 1) :=
  ⟨h.1, by rw [take_get l 0 j (by omega), dropI_snoc_no hf]; exact h.2.1, fun p h1 h2 => h.2.2 p (by omega) h2⟩
theorem delC_keep {x : Int} {l X : List Int} {N i j : Nat} (h : DelC x l X N i j) (hN : l.length = N) (hj : j < N) (hij : i < j) (hf : ¬ l.getD j 0 = x) : DelC x l (X.set i (l.getD j 0)) N (i + 1) (j + 1) := by
  obtain ⟨h1, h2, h3⟩ := h
  refine ⟨by simp [h1], ?_, fun p h4 h5 => ?_⟩
  · rw [take_get l 0 j (by omega), dropI_snoc_yes hf, ← h2, take_get _ 0 i (by simp [h1]; omega)]
    have hil : i < X.length := by omega
    rw [show (X.set i (l.getD j 0)).getD i 0 = l.getD j 0 from by simp [List.getD, hil]]
    rw [List.take_set_of_le (by omega)]
  · rw [show (X.set i (l.getD j 0)).getD p 0 = X.getD p 0 from by simp [List.getD, List.getElem?_set, show i ≠ p by omega]]
    exact h3 p (by omega) h5
/-- All old blocks but the row's own stay. -/
def Mva (w w' : World) (a : Option Addr) : Prop := ∀ k, k < w.heap.size → (∀ x, a = some x → x.block ≠ k) → w'.heap[k]? = w.heap[k]?
theorem Mva.below {w w' : World} (a : Option Addr) (h : Below w.heap.size w w') : Mva w w' a := fun k hk _ => h.block k hk
theorem Mva.trans {w w1 w2 : World} {a : Option Addr} (h : Mva w w1 a) (h1 : Mva w1 w2 a) (hz : w.heap.size ≤ w1.heap.size) : Mva w w2 a := fun k hk hx => (h1 k (by omega) hx).trans (h k hk hx)
theorem Mva.set {w w' : World} {g : Nat} (h : Mva w w' (some ⟨g, 0, none⟩)) (j : Nat) (u : Value) : Mva w (w'.setCell ⟨g, j, none⟩ u) (some ⟨g, 0, none⟩) := fun k hk hx => by
  have hne : g ≠ k := hx _ rfl
  exact (Below.heap_setCell w' ⟨g, j, none⟩ u k (show k ≠ g by omega)).trans (h k hk hx)
theorem Mva.setCells {w w' : World} {g : Nat} (h : Mva w w' (some ⟨g, 0, none⟩)) (vs : List Value) (o : Nat) : Mva w (w'.setCells g o vs) (some ⟨g, 0, none⟩) := fun k hk hx => by
  have hne : g ≠ k := hx _ rfl
  exact (setCells_block g vs o w' k (by omega)).trans (h k hk hx)
def CapC (w : World) (pb : Nat) (x : Int) : Prop := w.cell? ⟨pb, 0, none⟩ = some (.int .i64 x)
theorem CapC.keep {w w' : World} {pb : Nat} {x : Int} {a : Option Addr} (h : CapC w pb x) (hm : Mva w w' a) (h1 : ∀ x, a = some x → x.block ≠ pb) : CapC w' pb x :=
  (World.cell?_of_block (a := ⟨pb, 0, none⟩) (hm pb (cell_lt h) h1)).trans h
theorem CapC.below {w w' : World} {pb : Nat} {x : Int} (h : CapC w pb x) (hb : Below w.heap.size w w') : CapC w' pb x := (hb.cell (cell_lt h)).trans h
set_option maxRecDepth 100000 in
theorem clC_walk (x v : Int) (pb : Nat) (w : World) (b : Bool) (hb : (v == x) = b) (hC : CapC w pb x) :
    Calls Try.prog 46 #[.int .i64 v, .pointer (some ⟨pb, 0, none⟩)] w fun e w' => e = .returned (.bool b) ∧ Below w.heap.size w w' := by
  have HB := Lib.hid hb
  have c0 : w.cell? ⟨pb, 0, none⟩ = some (.int .i64 x) := hC
  clear hb hC
  go_enter Try.func46, Try.ntmps46
  go_wp2_with fail
  go_ret
  exact ⟨by first | rfl | (rw [← HB.out]; rfl) | (rw [HB.out]), Below.refl _ _⟩
def IxCPost (x : Int) (l : List Int) (N : Nat) (w : World) (e : Ending) (w' : World) : Prop :=
  (∃ k : Nat, k < N ∧ Hid (∀ p, p < k → ¬ IsAt x l p) ∧ Hid (IsAt x l k) ∧ e = .returned (.int .i64 k) ∧ Below w.heap.size w w') ∨
  (Hid (∀ p, p < N → ¬ IsAt x l p) ∧ e = .returned (.int .i64 (-1)) ∧ Below w.heap.size w w')
set_option maxRecDepth 100000 in
set_option maxHeartbeats 4000000 in
theorem ixC_walk (x : Int) (l : List Int) (N : Nat) (a : Option Addr) (c B pb : Nat) (w : World) (hN : l.length = N) (hNm : N ≤ 1000) (hC : CapC w pb x) (h : Sl w B a (i64s l)) (hB : B ≤ w.heap.size) :
    Calls Try.prog 60 #[.slice a N c, .func (.func 46) #[] #[.pointer (some ⟨pb, 0, none⟩)]] w (IxCPost x l N w) := by
  have HNe := Lib.hid hN
  have HC := Lib.hid hC
  clear hN hC
  go_enter Try.func60, Try.ntmps60
  go_wp2_with fail
  go_loopw [8] (fun I wr => ∃ k : Nat, k ≤ N ∧ I = .int .i64 k ∧ Hid (∀ p, p < k → ¬ IsAt x l p) ∧ Below w.heap.size w wr) (fun I _ => N - (intOf I).toNat)
  case atStart => exact ⟨0, by omega, rfl, Lib.hid (fun p hp => by omega), Below.refl _ _⟩
  case round =>
    obtain ⟨k, hk, rfl, HL, hbw⟩ := hrel
    by_cases hlt : k < N
    · have hki : (k : Int) < (N : Int) := by omega
      have hk0 : 0 ≤ (k : Int) := by omega
      obtain ⟨b1, o1, rfl, hb1, hc⟩ := (h.below hbw hB).ints (by rw [HNe.out]; omega)
      have r0 := hc k (by rw [HNe.out]; exact hlt)
      have C2 := HC.out.below hbw
      have hz1 : b1 < wr.heap.size := by have := hbw.size; omega
      obtain ⟨v, hv⟩ : ∃ v, l.getD k 0 = v := ⟨_, rfl⟩
      rw [hv] at r0
      have HV := Lib.hid hv
      by_cases he : v = x
      · have HF := Lib.hid (clC_walk x v pb wr true (by simpa using he) C2)
        have HE := Lib.hid (show IsAt x l k from HV.out.trans he)
        clear hc hv he C2
        go_wp2_with fail
        refine HF.out.mono ?_
        rintro e w5 ⟨rfl, g5⟩
        have b5 := hbw.trans (g5.mono hbw.size)
        go_wp2_with fail
        go_ret
        exact .inl ⟨k, hlt, HL, HE, rfl, b5⟩
      · have HF := Lib.hid (clC_walk x v pb wr false (by simpa using he) C2)
        have HL2 := Lib.hid (show ∀ p, p < k + 1 → ¬ IsAt x l p from fun p hp => by
          rcases Nat.lt_or_ge p k with h1 | h1
          · exact HL.out p h1
          · rw [show p = k from by omega]; unfold IsAt; rw [HV.out]; exact he)
        clear hc hv he C2
        go_wp2_with fail
        refine HF.out.mono ?_
        rintro e w5 ⟨rfl, g5⟩
        have b5 := hbw.trans (g5.mono hbw.size)
        go_wp2_with fail
        go_roundw
        case rel => exact ⟨k + 1, by omega, by go_num, HL2, b5⟩
        case measure => simp [intOf]; omega
    · obtain rfl : k = N := by omega
      go_wp2_with fail
      go_ret
      exact .inr ⟨HL, rfl, hbw⟩
def DelPost (base : Nat) (a : Option Addr) (D : List Int) (w : World) (e : Ending) (w' : World) : Prop := ∃ c', e = .returned (.slice a D.length c') ∧ w'.ownsRow base 3 1 (.slice a D.length c') D.length (i64s D) ∧ Below base w w' ∧ Mva w w' a
set_option maxRecDepth 100000 in
set_option maxHeartbeats 8000000 in
theorem delC_walk (x : Int) (l : List Int) (N : Nat) (a : Option Addr) (c base pb : Nat) (w : World) (hN : l.length = N) (hNm : N ≤ 1000) (hC : CapC w pb x)
    (hown : w.ownsRow base 3 1 (.slice a N c) N (i64s l)) (hbase : base ≤ w.heap.size) (hpa : ∀ x, a = some x → x.block ≠ pb) :
    Calls Try.prog 45 #[.slice a N c, .func (.func 46) #[] #[.pointer (some ⟨pb, 0, none⟩)]] w (DelPost base a (dropI x l) w) := by
  have HI := Lib.hid (ixC_walk x l N a c w.heap.size pb w hN hNm hC (ownN_sl hown) (Nat.le_refl _))
  unfold IxCPost at HI
  have HNe := Lib.hid hN
  have HC := Lib.hid hC
  have HO := Lib.hid hown
  have hcap := ownN_cap hown
  have hNc := hcap.2
  clear hN hC hown hcap
  go_enter Try.func45, Try.ntmps45
  go_wp2_with fail
  refine HI.out.mono ?_
  rintro e w1 (⟨k, hk, HL, HF, rfl, g1⟩ | ⟨HL, rfl, g1⟩)
  · have own1 := own_keep HO.out g1
    have b1 : Below base w w1 := g1.mono hbase
    have M1 := Lib.hid (Mva.below a g1)
    have HS := Lib.hid (delC_start HNe.out hk HL.out HF.out)
    obtain ⟨g, rfl, hgb, hgl, _⟩ := ownN_at own1 (by omega)
    have HPA := Lib.hid hpa
    have hwk : IntKind.i64.wrap ((k : Int) + 1) = ((k + 1 : Nat) : Int) := by rw [IntWalk.i64_in _ (by omega)]; omega
    have hk1 : ((k : Int) == -1) = false := beq_eq_false_iff_ne.2 (by omega)
    clear HI hpa
    go_wp2_with fail
    go_loopw [5, 6] (fun I J wr => ∃ (i j : Nat) (X : List Int), j ≤ N ∧ i < j ∧ i < N ∧ I = .int .i64 i ∧ J = .int .i64 j ∧ Hid (DelC x l X N i j) ∧ wr.ownsRow base 3 1 (.slice (some ⟨g, 0, none⟩) N c) N (i64s X) ∧ Below base w wr ∧ Hid (Mva w wr (some ⟨g, 0, none⟩))) (fun _ J _ => N - (intOf J).toNat)
    case atStart => exact ⟨k, k + 1, l, by omega, by omega, by omega, rfl, by go_num, HS, own1, b1, M1⟩
    case round =>
      obtain ⟨i, j, X, hjN, hij, hiN, rfl, rfl, HD, own, hb, HM⟩ := hrel
      have hbz := hb.size
      by_cases hlt : j < N
      · have hlt2 : (j : Int) < (N : Int) := by omega
        have hi2 : (i : Int) < (N : Int) := by omega
        have hj0 : 0 ≤ (j : Int) := by omega
        have hi0 : 0 ≤ (i : Int) := by omega
        have Hwi := Lib.hid (show IntKind.i64.wrap ((i : Int) + 1) = ((i + 1 : Nat) : Int) by rw [IntWalk.i64_in _ (by omega)]; omega)
        have Hwj := Lib.hid (show IntKind.i64.wrap ((j : Int) + 1) = ((j + 1 : Nat) : Int) by rw [IntWalk.i64_in _ (by omega)]; omega)
        have C0 := HC.out.keep HM.out HPA.out
        obtain ⟨g', e, hgb', hgl', hfz, hcc⟩ := ownN_at own (by omega)
        injection e with e
        injection e with e1 _ _
        subst e1
        have r0 := hcc j _ (i64s_get X j (by rw [HD.out.1]; exact hlt))
        rw [HD.out.2.2 j (Nat.le_refl _) hlt] at r0
        obtain ⟨v, hv⟩ : ∃ v, l.getD j 0 = v := ⟨_, rfl⟩
        rw [hv] at r0
        have HV := Lib.hid hv
        clear hv hcc hwk
        by_cases hf : v = x
        · have HW := Lib.hid (clC_walk x v pb wr true (by simpa using hf) C0)
          have HD2 := Lib.hid (delC_drop HD.out HNe.out hlt (HV.out.trans hf))
          have HO1 := Lib.hid own
          clear hf own hfz C0
          go_wp2_with fail
          refine HW.out.mono ?_
          rintro e w3 ⟨rfl, g3⟩
          have own3 := own_keep HO1.out g3
          have b3 := hb.trans (g3.mono (by omega))
          have M3 := Lib.hid (HM.out.trans (Mva.below _ g3) hbz)
          clear HW r0
          go_upto_region 6 with fail
          have hwj := Hwj.out
          go_wp2_with fail
          go_roundw
          case rel => exact ⟨i, j + 1, X, by omega, by omega, hiN, rfl, by go_num, HD2, own3, b3, M3⟩
          case measure => simp [intOf]; omega
        · have HW := Lib.hid (clC_walk x v pb wr false (by simpa using hf) C0)
          have HD2 := Lib.hid (delC_keep HD.out HNe.out hlt hij (by rw [HV.out]; exact hf))
          rw [HV.out] at HD2
          have HO1 := Lib.hid own
          clear hf own hfz C0
          go_wp2_with fail
          refine HW.out.mono ?_
          rintro e w3 ⟨rfl, g3⟩
          have own3 := own_keep HO1.out g3
          have b3 := hb.trans (g3.mono (by omega))
          have M3 := HM.out.trans (Mva.below _ g3) hbz
          have hz3 := g3.size
          clear HW r0
          obtain ⟨g', e, _, hgl3, hfz3, hcc⟩ := ownN_at own3 (by omega)
          injection e with e
          injection e with e1 _ _
          subst e1
          have s0 := hcc i _ (i64s_get X i (by rw [HD.out.1]; exact hiN))
          have f0 := hfz3 i
          have own5 := ownN_store (u := .int .i64 v) own3 (j := i) (by rw [i64s_len, HD.out.1]; exact hiN)
          rw [← i64s_set] at own5
          have b5 := b3.setCell (p := ⟨g, i, none⟩) hgb (.int .i64 v)
          have M5 := Lib.hid (M3.set i (.int .i64 v))
          clear hcc hfz3 own3 M3
          go_upto_region 10 with fail
          have hwi := Hwi.out
          go_upto_region 6 with fail
          clear hwi
          have hwj := Hwj.out
          go_wp2_with fail
          go_roundw
          case rel => exact ⟨i + 1, j + 1, X.set i v, by omega, by omega, by omega, by go_num, by go_num, HD2, own5, b5, M5⟩
          case measure => simp [intOf]; omega
      · have hlt2 : ¬ (j : Int) < (N : Int) := by omega
        have HD3 := Lib.hid (show X.take i = dropI x l from by rw [HD.out.2.1, List.take_of_length_le (by rw [HNe.out]; omega)])
        have hic : i ≤ c := by omega
        have hi0 : 0 ≤ (i : Int) := by omega
        have hiN2 : (i : Int) ≤ (N : Int) := by omega
        have hiN3 : i ≤ N := by omega
        obtain ⟨g', e, _, hgl', hfz, hcc⟩ := ownN_at own (by omega)
        injection e with e
        injection e with e1 _ _
        subst e1
        have hXL : (i64s X).length = N := by rw [i64s_len, HD.out.1]
        have hzv : ∀ w, (zeroValue 3).run Try.prog w = .ok (.int .i64 0) w := fun w => by kernel_rfl
        have hcl := fun ty c' => run_clear_ints (P := Try.prog) wr 22 3 ty _ Try.underlying22 hzv (by rfl) (fun v hv => by simp [Value.cells] at hv; rcases hv with rfl; rfl) g i (N - i) c' (fun j hj => by
          rw [hcc (i + j) _ (List.getElem?_eq_getElem (by rw [hXL]; omega))]; rfl) (fun j hj => hfz _)
        obtain ⟨vs, hvl, hvs⟩ := hcl 0 (c - i)
        have HVL := Lib.hid hvl
        have HXL := Lib.hid hXL
        have OWN := Lib.hid own
        clear hcl hcc hfz hvl hXL own
        go_wp2_with (simp only [hvs])
        go_ret
        have hXi : (X.take i).length = i := by rw [List.length_take, HD.out.1]; omega
        have own3 := ownN_short (ownN_setCells vs wr (i64s X) i OWN.out (by rw [HVL.out, HXL.out]; omega)) (show i ≤ N by omega)
        have hfin : (putAt (i64s X) i vs).take (i * 1) = i64s (dropI x l) := by
          rw [putAt_eq _ _ _ (by rw [HVL.out, HXL.out]; omega), Nat.mul_one, List.append_assoc, List.take_append_of_le_length (by rw [List.length_take, HXL.out]; omega), List.take_take, Nat.min_self]
          unfold i64s
          rw [← List.map_take, HD3.out]
        rw [hfin] at own3
        refine ⟨c, by rw [← HD3.out, hXi]; rfl, ?_, below_setCells0 hgb vs i wr hb, HM.out.setCells vs i⟩
        rw [← HD3.out, hXi, HD3.out]
        exact own3
  · have own1 := own_keep HO.out g1
    have HD := Lib.hid (dropI_none (fun p hp => HL.out p (by rw [← HNe.out]; exact hp)))
    have M1 := Mva.below a g1
    clear HI
    go_wp2_with fail
    go_ret
    exact ⟨c, by rw [HD.out, HNe.out]; rfl, by rw [HD.out, HNe.out]; exact own1, g1.mono hbase, M1⟩
end Go.Proofs.Ytafibgekikjlhaa
