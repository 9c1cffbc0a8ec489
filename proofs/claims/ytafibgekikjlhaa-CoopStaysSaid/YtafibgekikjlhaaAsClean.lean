/- The walks of assign's clean and of what it calls. -/
import Derived.Test.YtafibgekikjlhaaAsMath
import Derived.Test.YtafibgekikjlhaaShelf
import Derived.Test.YtafibgekikjlhaaRecs
import Derived.Test.YtafibgekikjlhaaInfo
import Derived.Sort.OwnSortedInts
import Derived.Lib.LazyBuf
import Derived.Shelf.Slices.In.SortNone
import Derived.IntWalk
import Derived.WalkSpells
import Derived.WalkLawsBesides
import Derived.Deep.Cut
namespace Go.Proofs.Ytafibgekikjlhaa
open Go.RowKit Vm As
open Go.Sort (Holds)
set_option linter.unusedVariables false
set_option linter.unusedSimpArgs false

theorem i64s_get (l : List Int) (k : Nat) (h : k < l.length) : (i64s l)[k]? = some (.int .i64 (l.getD k 0)) := by
  unfold i64s; simp [List.getD, h]
theorem i64s_len (l : List Int) : (i64s l).length = l.length := by simp [i64s]
theorem i64s_set (R : List Int) (i : Nat) (x : Int) : i64s (R.set i x) = (i64s R).set i (.int .i64 x) := by
  unfold i64s; rw [List.map_set]
theorem Sl.ints {w : World} {B : Nat} {a : Option Addr} {L : List Int} (h : Sl w B a (i64s L)) (h0 : 0 < L.length) :
    ∃ b off, a = some ⟨b, off, none⟩ ∧ b < B ∧ ∀ j, j < L.length → w.cell? ⟨b, off + j, none⟩ = some (.int .i64 (L.getD j 0)) := by
  rcases h with h | ⟨b, off, e, hlt, hc⟩
  · have := congrArg List.length h
    rw [i64s_len, List.length_nil] at this; omega
  · exact ⟨b, off, e, hlt, fun j hj => hc _ _ (i64s_get L j hj)⟩
def PosAt (l : List Int) (p : Nat) : Prop := 0 < l.getD p 0
def NegAt (l : List Int) (p : Nat) : Prop := l.getD p 0 ≤ 0
theorem neg_walk (x : Int) (w : World) (d : Bool) (hd : decide (x ≤ 0) = d) : Calls Try.prog 52 #[.int .i64 x] w fun e w' => e = .returned (.bool d) ∧ Below w.heap.size w w' := by
  go_enter Try.func52, Try.ntmps52
  go_wp2_with fail
  go_ret
  exact ⟨by first | rfl | (rw [← hd]; rfl) | (rw [hd]), Below.refl _ _⟩
set_option maxRecDepth 100000 in
set_option maxHeartbeats 4000000 in
theorem idx_walk (l : List Int) (N : Nat) (a : Option Addr) (c B : Nat) (w : World) (hN : l.length = N) (hNm : N ≤ 1000) (h : Sl w B a (i64s l)) (hB : B ≤ w.heap.size) :
    Calls Try.prog 60 #[.slice a N c, .func (.func 52) #[] #[]] w fun e w' => ((∃ k : Nat, k < N ∧ Hid (∀ p, p < k → PosAt l p) ∧ Hid (NegAt l k) ∧ e = .returned (.int .i64 k)) ∨ (Hid (∀ p, p < N → PosAt l p) ∧ e = .returned (.int .i64 (-1)))) ∧ Below w.heap.size w w' := by
  have HNe := Lib.hid hN
  clear hN
  go_enter Try.func60, Try.ntmps60
  go_wp2_with fail
  go_loopw [8] (fun I wr => ∃ k : Nat, k ≤ N ∧ I = .int .i64 k ∧ Hid (∀ p, p < k → PosAt l p) ∧ Below w.heap.size w wr) (fun I _ => N - (intOf I).toNat)
  case atStart => exact ⟨0, by omega, rfl, Lib.hid (fun p hp => by omega), Below.refl _ _⟩
  case round =>
    obtain ⟨k, hk, rfl, HL, hbw⟩ := hrel
    by_cases hlt : k < N
    · have hki : (k : Int) < (N : Int) := by omega
      have hk0 : 0 ≤ (k : Int) := by omega
      obtain ⟨b1, o1, rfl, hb1, hc⟩ := (h.below hbw hB).ints (by rw [HNe.out]; omega)
      have r0 := hc k (by rw [HNe.out]; exact hlt)
      have hz1 : b1 < wr.heap.size := by have := hbw.size; omega
      obtain ⟨x, hx⟩ : ∃ x, l.getD k 0 = x := ⟨_, rfl⟩
      rw [hx] at r0
      have HX := Lib.hid hx
      by_cases he : x ≤ 0
      · have HF := Lib.hid (neg_walk x wr true (decide_eq_true he))
        have HNg := Lib.hid (show NegAt l k by unfold NegAt; rw [HX.out]; exact he)
        clear hc hx
        go_wp2_with fail
        refine HF.out.mono ?_
        rintro e w5 ⟨rfl, g5⟩
        have b5 := hbw.trans (g5.mono hbw.size)
        go_wp2_with fail
        go_ret
        exact ⟨.inl ⟨k, hlt, HL, HNg, rfl⟩, b5⟩
      · have HF := Lib.hid (neg_walk x wr false (decide_eq_false he))
        have HL2 := Lib.hid (show ∀ p, p < k + 1 → PosAt l p from fun p hp => by
          rcases Nat.lt_or_ge p k with h1 | h1
          · exact HL.out p h1
          · unfold PosAt; rw [show p = k from by omega, HX.out]; omega)
        clear hc hx he
        go_wp2_with fail
        refine HF.out.mono ?_
        rintro e w5 ⟨rfl, g5⟩
        have b5 := hbw.trans (g5.mono hbw.size)
        go_wp2_with fail
        go_roundw
        case rel => exact ⟨k + 1, by omega, by go_num, HL2, b5⟩
        case measure => simp [intOf]; omega
    · obtain rfl : k = N := by omega
      go_wp2_with fail
      go_ret
      exact ⟨.inr ⟨HL, rfl⟩, hbw⟩
theorem posL_snoc_no {l : List Int} {x : Int} (h : x ≤ 0) : posL (l ++ [x]) = posL l := by
  unfold posL; rw [List.filter_append]; simp [h]
theorem posL_snoc_yes {l : List Int} {x : Int} (h : ¬ x ≤ 0) : posL (l ++ [x]) = posL l ++ [x] := by
  unfold posL; rw [List.filter_append]; simp [h]
theorem posL_all {l : List Int} (h : ∀ p, p < l.length → PosAt l p) : posL l = l := by
  unfold posL
  rw [List.filter_eq_self]
  intro x hx
  obtain ⟨i, hi, rfl⟩ := List.mem_iff_getElem.1 hx
  have := h i hi
  unfold PosAt at this
  rw [show l.getD i 0 = l[i] from by simp [List.getD, hi]] at this
  simpa using this
/-- How far a deletion is. -/
def DelI (l X : List Int) (N i j : Nat) : Prop := X.length = N ∧ X.take i = posL (l.take j) ∧ ∀ p, j ≤ p → p < N → X.getD p 0 = l.getD p 0
theorem delI_start {l : List Int} {N k : Nat} (hN : l.length = N) (hk : k < N) (h1 : ∀ p, p < k → PosAt l p) (h2 : NegAt l k) : DelI l l N k (k + 1) := by
  refine ⟨hN, ?_, fun _ _ _ => rfl⟩
  rw [take_get l 0 k (by omega), posL_snoc_no h2, posL_all]
  intro p hp
  rw [List.length_take] at hp
  unfold PosAt
  rw [show (l.take k).getD p 0 = l.getD p 0 from by simp [List.getD, List.getElem?_take, show p < k by omega]]
  exact h1 p (by omega)
theorem delI_drop {l X : List Int} {N i j : Nat} (h : DelI l X N i j) (hN : l.length = N) (hj : j < N) (hf : l.getD j 0 ≤ 0) : DelI l X N i (j + 1) :=
  ⟨h.1, by rw [take_get l 0 j (by omega), posL_snoc_no hf]; exact h.2.1, fun p h1 h2 => h.2.2 p (by omega) h2⟩
theorem delI_keep {l X : List Int} {N i j : Nat} (h : DelI l X N i j) (hN : l.length = N) (hj : j < N) (hij : i < j) (hf : ¬ l.getD j 0 ≤ 0) : DelI l (X.set i (l.getD j 0)) N (i + 1) (j + 1) := by
  obtain ⟨h1, h2, h3⟩ := h
  refine ⟨by simp [h1], ?_, fun p h4 h5 => ?_⟩
  · rw [take_get l 0 j (by omega), posL_snoc_yes hf, ← h2, take_get _ 0 i (by simp [h1]; omega)]
    have hil : i < X.length := by omega
    rw [show (X.set i (l.getD j 0)).getD i 0 = l.getD j 0 from by simp [List.getD, hil]]
    rw [List.take_set_of_le (by omega)]
  · rw [show (X.set i (l.getD j 0)).getD p 0 = X.getD p 0 from by simp [List.getD, List.getElem?_set, show i ≠ p by omega]]
    exact h3 p (by omega) h5
theorem run_clear_ints {P : Program} (w : World) (t e ty : TypeId) (z : Value) (ht : P.underlying t = some (.slice e)) (hv : ∀ w, (zeroValue e).run P w = .ok z w) (hz : z.cells.size = 1) (h1 : ∀ v ∈ z.cells.toList, v.oneCell' = true) (b o n c : Nat)
    (hc : ∀ j, j < n → (w.cell? ⟨b, o + j, none⟩).isSome = true) (hf : ∀ j, j < n → w.frozen? ⟨b, o + j, none⟩ = false) :
    ∃ vs : List Value, vs.length = n ∧ (Builtin.clear_ #[t] ty #[.slice (some ⟨b, o, none⟩) n c]).run P w = .ok (.tuple #[]) (w.setCells b o vs) := by
  have hlen : (Builtin.zeroCells z.cells n).toList.length = n := by simp [Builtin.zeroCells, hz]
  have hone : ∀ v ∈ (Builtin.zeroCells z.cells n).toList, v.oneCell' = true := by
    intro v hv'
    simp only [Builtin.zeroCells, Array.toList_map, List.mem_map] at hv'
    obtain ⟨i, _, rfl⟩ := hv'
    have hi : i % z.cells.size < z.cells.size := Nat.mod_lt _ (by omega)
    rw [getElem!_pos z.cells _ hi]
    exact h1 _ (by simp)
  have hst := run_storeCells_cells (P := P) b o (Builtin.zeroCells z.cells n).toList 0 w (by rw [hlen]; simpa using hc) (by rw [hlen]; simpa using hf) hone
  simp only [Nat.add_zero] at hst
  cases n with
  | zero => exact ⟨[], rfl, by simp [Builtin.clear_, run_underlying ht, hv, World.setCells]⟩
  | succ m => exact ⟨(Builtin.zeroCells z.cells (m + 1)).toList, hlen, by simp [Builtin.clear_, run_underlying ht, hv, hst]⟩
def HoldI (w : World) (base g : Nat) (D : List Int) : Prop := base ≤ g ∧ g < w.heap.size ∧ Holds (Value.int .i64) w g 0 D.toArray
/-- A slice of the call's own that holds D, and nothing else has turned. -/
def OwnI (base : Nat) (D : List Int) (w : World) (e : Ending) (w' : World) : Prop :=
  ((D = [] ∧ ∃ a' c', e = .returned (.slice a' 0 c') ∧ ∀ x, a' = some x → base ≤ x.block ∧ x.off = 0 ∧ x.spot = none ∧ x.block < w'.heap.size) ∨ (∃ g c', D.length ≤ c' ∧ 0 < D.length ∧ e = .returned (.slice (some ⟨g, 0, none⟩) D.length c') ∧ HoldI w' base g D)) ∧ Below base w w'
set_option maxRecDepth 100000 in
set_option maxHeartbeats 8000000 in
theorem del_walk (l : List Int) (N : Nat) (a : Option Addr) (c base : Nat) (w : World) (hN : l.length = N) (hNm : N ≤ 1000) (hown : w.ownsRow base 3 1 (.slice a N c) N (i64s l)) (hbase : base ≤ w.heap.size) :
    Calls Try.prog 45 #[.slice a N c, .func (.func 52) #[] #[]] w (OwnI base (posL l) w) := by
  have HI := Lib.hid (idx_walk l N a c w.heap.size w hN hNm (ownN_sl hown) (Nat.le_refl _))
  have HNe := Lib.hid hN
  have HO := Lib.hid hown
  have hcap := ownN_cap hown
  have hNc := hcap.2
  clear hN hown hcap
  go_enter Try.func45, Try.ntmps45
  go_wp2_with fail
  refine HI.out.mono ?_
  rintro e w1 ⟨⟨k, hk, HL, HF, rfl⟩ | ⟨HL, rfl⟩, g1⟩
  · have own1 := own_keep HO.out g1
    have b1 : Below base w w1 := g1.mono hbase
    have HS := Lib.hid (delI_start HNe.out hk HL.out HF.out)
    obtain ⟨g, rfl, hgb, hgl, _⟩ := ownN_at own1 (by omega)
    have hwk : IntKind.i64.wrap ((k : Int) + 1) = ((k + 1 : Nat) : Int) := by rw [IntWalk.i64_in _ (by omega)]; omega
    have hk1 : ((k : Int) == -1) = false := beq_eq_false_iff_ne.2 (by omega)
    clear HI HL HF
    go_wp2_with fail
    go_loopw [5, 6] (fun I J wr => ∃ (i j : Nat) (X : List Int), j ≤ N ∧ i < j ∧ i < N ∧ I = .int .i64 i ∧ J = .int .i64 j ∧ Hid (DelI l X N i j) ∧ wr.ownsRow base 3 1 (.slice (some ⟨g, 0, none⟩) N c) N (i64s X) ∧ Below base w wr) (fun _ J _ => N - (intOf J).toNat)
    case atStart => exact ⟨k, k + 1, l, by omega, by omega, by omega, rfl, by go_num, HS, own1, b1⟩
    case round =>
      obtain ⟨i, j, X, hjN, hij, hiN, rfl, rfl, HD, own, hb⟩ := hrel
      have hbz := hb.size
      by_cases hlt : j < N
      · have hlt2 : (j : Int) < (N : Int) := by omega
        have hi2 : (i : Int) < (N : Int) := by omega
        have hj0 : 0 ≤ (j : Int) := by omega
        have hi0 : 0 ≤ (i : Int) := by omega
        have Hwi := Lib.hid (show IntKind.i64.wrap ((i : Int) + 1) = ((i + 1 : Nat) : Int) by rw [IntWalk.i64_in _ (by omega)]; omega)
        have Hwj := Lib.hid (show IntKind.i64.wrap ((j : Int) + 1) = ((j + 1 : Nat) : Int) by rw [IntWalk.i64_in _ (by omega)]; omega)
        obtain ⟨g', e, hgb', hgl', hfz, hcc⟩ := ownN_at own (by omega)
        injection e with e
        injection e with e1 _ _
        subst e1
        have r0 := hcc j _ (i64s_get X j (by rw [HD.out.1]; exact hlt))
        rw [HD.out.2.2 j (Nat.le_refl _) hlt] at r0
        obtain ⟨x, hx⟩ : ∃ x, l.getD j 0 = x := ⟨_, rfl⟩
        rw [hx] at r0
        have HX := Lib.hid hx
        clear hx hcc hwk
        by_cases hf : x ≤ 0
        · have HW := Lib.hid (neg_walk x wr true (decide_eq_true hf))
          have HD2 := Lib.hid (delI_drop HD.out HNe.out hlt (by rw [HX.out]; exact hf))
          have HO1 := Lib.hid own
          clear hf own hfz
          go_wp2_with fail
          refine HW.out.mono ?_
          rintro e w3 ⟨rfl, g3⟩
          have own3 := own_keep HO1.out g3
          have b3 := hb.trans (g3.mono (by omega))
          clear HW r0
          go_upto_region 6 with fail
          have hwj := Hwj.out
          go_wp2_with fail
          go_roundw
          case rel => exact ⟨i, j + 1, X, by omega, by omega, hiN, rfl, by go_num, HD2, own3, b3⟩
          case measure => simp [intOf]; omega
        · have HW := Lib.hid (neg_walk x wr false (decide_eq_false hf))
          have HD2 := Lib.hid (delI_keep HD.out HNe.out hlt hij (by rw [HX.out]; exact hf))
          rw [HX.out] at HD2
          have HO1 := Lib.hid own
          clear hf own hfz
          go_wp2_with fail
          refine HW.out.mono ?_
          rintro e w3 ⟨rfl, g3⟩
          have own3 := own_keep HO1.out g3
          have b3 := hb.trans (g3.mono (by omega))
          have hz3 := g3.size
          clear HW r0
          obtain ⟨g', e, _, hgl3, hfz3, hcc⟩ := ownN_at own3 (by omega)
          injection e with e
          injection e with e1 _ _
          subst e1
          have s0 := hcc i _ (i64s_get X i (by rw [HD.out.1]; exact hiN))
          have f0 := hfz3 i
          have own5 := ownN_store (u := .int .i64 x) own3 (j := i) (by rw [i64s_len, HD.out.1]; exact hiN)
          rw [← i64s_set] at own5
          have b5 := b3.setCell (p := ⟨g, i, none⟩) hgb (.int .i64 x)
          clear hcc hfz3 own3
          go_upto_region 10 with fail
          have hwi := Hwi.out
          go_upto_region 6 with fail
          clear hwi
          have hwj := Hwj.out
          go_wp2_with fail
          go_roundw
          case rel => exact ⟨i + 1, j + 1, X.set i x, by omega, by omega, by omega, by go_num, by go_num, HD2, own5, b5⟩
          case measure => simp [intOf]; omega
      · have hlt2 : ¬ (j : Int) < (N : Int) := by omega
        have HD3 := Lib.hid (show X.take i = posL l from by rw [HD.out.2.1, List.take_of_length_le (by rw [HNe.out]; omega)])
        have hic : i ≤ c := by omega
        have hi0 : 0 ≤ (i : Int) := by omega
        have hiN2 : (i : Int) ≤ (N : Int) := by omega
        have hiN3 : i ≤ N := by omega
        obtain ⟨g', e, _, hgl', hfz, hcc⟩ := ownN_at own (by omega)
        injection e with e
        injection e with e1 _ _
        subst e1
        have hXL : (i64s X).length = N := by rw [i64s_len, HD.out.1]
        have hzv : ∀ w, (zeroValue 3).run Try.prog w = .ok (.int .i64 0) w := fun w => by kernel_rfl
        have hcl := fun ty c' => run_clear_ints (P := Try.prog) wr 22 3 ty _ Try.underlying22 hzv (by rfl) (fun v hv => by simp [Value.cells] at hv; rcases hv with rfl; rfl) g i (N - i) c' (fun j hj => by
          rw [hcc (i + j) _ (List.getElem?_eq_getElem (by rw [hXL]; omega))]; rfl) (fun j hj => hfz _)
        obtain ⟨vs, hvl, hvs⟩ := hcl 0 (c - i)
        clear hcl
        go_wp2_with (simp only [hvs])
        go_ret
        have hXi : (X.take i).length = i := by rw [List.length_take, HD.out.1]; omega
        have hbs := Go.below_setCells (Nat.le_refl g) vs i wr (Below.refl g wr)
        have hsz := hbs.size
        refine ⟨?_, Go.below_setCells hgb vs i wr hb⟩
        rcases Nat.eq_zero_or_pos i with h0 | h0
        · refine .inl ⟨by rw [← HD3.out, h0]; rfl, some ⟨g, 0, none⟩, c, by rw [h0]; rfl, fun x hx => ?_⟩
          injection hx with hx
          subst hx
          exact ⟨hgb, rfl, rfl, by show g < _; omega⟩
        · refine .inr ⟨g, c, by rw [← HD3.out, hXi]; exact hic, by rw [← HD3.out, hXi]; exact h0, by rw [← HD3.out, hXi]; rfl, hgb, by omega, fun j hj => ?_⟩
          rw [← HD3.out] at hj ⊢
          have hj' : j < (X.take i).length := by simpa using hj
          have hj2 : j < i := by rw [hXi] at hj'; exact hj'
          have hjX : j < X.length := by rw [HD.out.1]; omega
          rw [Nat.zero_add, World.cell?_setCells_out g vs i wr ⟨g, j, none⟩ (fun _ _ => .inl hj2), hcc j _ (i64s_get X j hjX), World.frozen?_setCells]
          refine ⟨?_, hfz j⟩
          rw [getElem!_pos (X.take i).toArray j hj]
          simp [List.getD, hjX]
  · have own1 := own_keep HO.out g1
    have HD := Lib.hid (posL_all (fun p hp => HL.out p (by rw [← HNe.out]; exact hp)))
    have b1 := g1.mono hbase
    clear HI
    go_wp2_with fail
    go_ret
    refine ⟨?_, b1⟩
    rcases Nat.eq_zero_or_pos N with h0 | h0
    · refine .inl ⟨by rw [HD.out]; exact List.eq_nil_of_length_eq_zero (by rw [HNe.out]; exact h0), a, c, by rw [h0]; rfl, fun x hx => ?_⟩
      subst hx
      rcases own1.2 with ⟨h, _⟩ | ⟨g, cap, cur, h, hg, hh, _⟩
      · cases h
      · injection h with h _ _
        injection h with h
        subst h
        exact ⟨hg, rfl, rfl, (Array.getElem?_eq_some_iff.1 hh).1⟩
    · obtain ⟨g, rfl, hgb, hgl, hfz, hcc⟩ := ownN_at own1 h0
      refine .inr ⟨g, c, by rw [HD.out, HNe.out]; exact hNc, by rw [HD.out, HNe.out]; exact h0, by rw [HD.out, HNe.out]; rfl, hgb, hgl, fun j hj => ?_⟩
      rw [HD.out] at hj ⊢
      have hj' : j < l.length := by simpa using hj
      rw [Nat.zero_add, hcc j _ (i64s_get l j hj')]
      refine ⟨?_, hfz j⟩
      rw [getElem!_pos l.toArray j hj]
      simp [List.getD, hj']
theorem owni_len {D : List Int} : (D.mergeSort fun x y => decide (x ≤ y)).length = D.length := List.length_mergeSort _
theorem holds_sl {w : World} {g : Nat} {D : List Int} (h : Holds (Value.int .i64) w g 0 D.toArray) (hg : g < w.heap.size) : Sl w w.heap.size (some ⟨g, 0, none⟩) (i64s D) := by
  refine .inr ⟨g, 0, rfl, hg, fun j u hu => ?_⟩
  have hj : j < D.length := by
    have := (List.getElem?_eq_some_iff.1 hu).1
    rw [i64s_len] at this; exact this
  rw [i64s_get D j hj] at hu
  rw [(h j (by simpa using hj)).1, ← hu, getElem!_pos D.toArray j (by simpa using hj)]
  simp [List.getD, hj]
/-- Members, read only. -/
def CleanPost (l : List Int) (w : World) (e : Ending) (w' : World) : Prop :=
  ∃ m a' c', MemIs l m ∧ e = .returned (.slice a' m.length c') ∧ Sl w' w'.heap.size a' (i64s m) ∧ (∀ x, a' = some x → w.heap.size ≤ x.block) ∧ Below w.heap.size w w'
theorem below_sorted {w : World} {base g n : Nat} {os : Array Obj} (d : Array Int) (hg : base ≤ g) (hw : base ≤ w.heap.size) : Below base w (Go.Sort.grow (Go.Sort.putRow (Value.int .i64) (Go.Sort.ahead w n) g 0 d) os) :=
  (Below.refl base w).grown (Go.grownBy_sortedI d) hw (fun k hk => by cases hk; exact hg)
set_option maxRecDepth 100000 in
set_option maxHeartbeats 8000000 in
theorem clean_walk (l : List Int) (N : Nat) (a : Option Addr) (c B : Nat) (w : World) (hN : l.length = N) (hNm : N ≤ 1000) (h : Sl w B a (i64s l)) (hB : B ≤ w.heap.size) :
    Calls Try.prog 36 #[.slice a N c] w (CleanPost l w) := by
  have HN := Lib.hid hN
  have HC := Lib.hid (clean_is l)
  have KC : Calls Try.prog 50 #[.slice a N c] w fun e w' => ∃ a1 c1, e = .returned (.slice a1 N c1) ∧ w'.ownsRow w.heap.size 3 1 (.slice a1 N c1) N (i64s l) ∧ Below w.heap.size w w' := by
    rcases Nat.eq_zero_or_pos N with h0 | h0
    · have hl : l = [] := List.eq_nil_of_length_eq_zero (by omega)
      subst hl
      subst h0
      cases a with
      | none => exact (Try.slices_Clone_int_nil 0 c w).mono fun e w' ⟨he, hw⟩ => by subst hw; exact ⟨none, 0, he, World.ownsRow_nil _ _ _ _, Below.refl _ _⟩
      | some x =>
        refine (Try.slices_Clone_int_zero x c w).mono ?_
        rintro e w' ⟨v', he, ho, _, hb⟩
        obtain ⟨a2, c2, rfl⟩ := ownN_shape ho
        exact ⟨a2, c2, he, ho, hb⟩
    · obtain ⟨b, off, rfl, hb, hc⟩ := h.ints (by omega)
      refine (Try.slices_Clone_int b off N c l w (by omega) (by omega) hc).mono ?_
      rintro e w' ⟨v', he, ho, _, hb⟩
      obtain ⟨a2, c2, rfl⟩ := ownN_shape ho
      rw [List.take_of_length_le (by omega)] at ho
      exact ⟨a2, c2, he, ho, hb⟩
  have KC' := Lib.hid KC
  clear KC hN h
  go_enter Try.func36, Try.ntmps36
  go_wp2_with fail
  refine KC'.out.mono ?_
  rintro e w1 ⟨a1, c1, rfl, own1, b1⟩
  have KD := Lib.hid (del_walk l N a1 c1 w.heap.size w1 HN.out hNm own1 b1.size)
  have hz1 := b1.size
  clear KC' own1
  go_wp2_with fail
  refine KD.out.mono ?_
  rintro e w2 ⟨⟨hD, a2, c2, rfl, ha2⟩ | ⟨g, c2, hDc, hD0, rfl, hg0, hg1, hH⟩, b2⟩
  · rw [hD, show Lib.compact (([] : List Int).mergeSort fun x y => decide (x ≤ y)) = [] from by simp [Lib.compact, Lib.compactUpTo]] at HC
    have hz2 := b2.size
    have KS : Calls Try.prog 41 #[.slice a2 0 c2] w2 fun e w' => e = .returned (.tuple #[]) ∧ w' = w2 := Any.slices_Sort_int_none Try.lays189 a2 c2 w2
    have KS' := Lib.hid KS
    have KP := Lib.hid (Try.slices_Compact_int_empty a2 c2 w2)
    clear KD hD KS
    go_wp2_with fail
    refine KS'.out.mono ?_
    rintro e w3 ⟨rfl, rfl⟩
    go_wp2_with fail
    refine KP.out.mono ?_
    rintro e w4 ⟨rfl, rfl⟩
    go_wp2_with fail
    go_ret
    exact ⟨[], a2, c2, HC.out, rfl, Sl.nil _ _ _, fun x hx => (ha2 x hx).1, b1.trans b2⟩
  · obtain ⟨D, hD⟩ : ∃ D, posL l = D := ⟨_, rfl⟩
    have hDl : D.length ≤ 1000 := by
      rw [← hD]
      exact Nat.le_trans (List.length_filter_le _ _) (by rw [HN.out]; exact hNm)
    rw [hD] at hH hDc hD0 HC ⊢
    have KS := Lib.hid (Try.slices_Sort_int g 0 c2 D w2 hH hg1 (by omega))
    have HH := Lib.hid hH
    obtain ⟨Z, hZ⟩ : ∃ Z, (D.mergeSort fun x y => decide (x ≤ y)) = Z := ⟨_, rfl⟩
    have hZl : Z.length = D.length := by rw [← hZ]; exact List.length_mergeSort _
    rw [hZ] at HC KS
    have HZ := Lib.hid hZl
    have hz2 := b2.size
    clear KD hD hZ hH
    go_wp2_with fail
    refine KS.out.mono ?_
    rintro e w3 ⟨rfl, n, os, hw3⟩
    have b3 : Below w.heap.size w2 w3 := by rw [hw3]; exact below_sorted _ hg0 (by omega)
    have hH3 : Holds (Value.int .i64) w3 g 0 Z.toArray := by
      rw [hw3]
      exact Go.Sort.holds_grow _ _ _ _ _ _ (by simpa [Go.Sort.putRow, Go.Sort.mapBlock, Go.Sort.ahead] using hg1) (Go.Sort.holds_putRow _ _ _ _ D.toArray _ (Go.Sort.holds_ahead _ _ _ _ _ _ HH.out) (by simp [HZ.out]))
    have hz3 := b3.size
    have hg3 : g < w3.heap.size := by
      have : (Go.Sort.grow (Go.Sort.putRow (Value.int .i64) (Go.Sort.ahead w2 n) g 0 Z.toArray) os).heap.size = w2.heap.size + os.size := by simp [Go.Sort.putRow, Go.Sort.mapBlock, Go.Sort.ahead]
      rw [hw3, this]; omega
    have KP := Lib.hid (Try.slices_Compact_int g 0 c2 Z w3 hH3 (by omega) (by omega))
    rw [HZ.out] at KP
    have HH3 := Lib.hid hH3
    have hcl := Lib.compact_length_le Z
    have HM := Lib.hid HC.out.1
    clear KS hw3 hH3 HH
    go_wp2_with fail
    refine KP.out.mono ?_
    rintro e w4 ⟨rfl, q, hw4⟩
    obtain ⟨m, hm⟩ : ∃ m, Lib.compact Z = m := ⟨_, rfl⟩
    rw [hm] at hw4 hcl HC ⊢
    have b4 : Below w.heap.size w3 w4 := by
      rw [hw4]
      have := below_sorted (w := w3) (base := w.heap.size) (g := g) (n := q) (os := #[]) (m ++ List.replicate (D.length - m.length) 0).toArray hg0 (by omega)
      rwa [Go.Sort.grow_empty] at this
    have hH4 : Holds (Value.int .i64) w4 g 0 (m ++ List.replicate (D.length - m.length) 0).toArray := by
      rw [hw4]
      exact Go.Sort.holds_putRow _ _ _ _ Z.toArray _ (Go.Sort.holds_ahead _ _ _ _ _ _ HH3.out) (by simp [HZ.out]; have := HZ.out; omega)
    have hg4 : g < w4.heap.size := by
      have : (Go.Sort.putRow (Value.int .i64) (Go.Sort.ahead w3 q) g 0 (m ++ List.replicate (D.length - m.length) 0).toArray).heap.size = w3.heap.size := by simp [Go.Sort.putRow, Go.Sort.mapBlock, Go.Sort.ahead]
      rw [hw4, this]; exact hg3
    have hSl := Lib.hid (show Sl w4 w4.heap.size (some ⟨g, 0, none⟩) (i64s m) by
      have h1 := holds_sl hH4 hg4
      rcases h1 with h1 | ⟨b, off, e1, hlt, hc⟩
      · have := congrArg List.length h1
        rw [i64s_len, List.length_append, List.length_nil] at this
        exact .inl (by rw [show m = [] from List.eq_nil_of_length_eq_zero (by omega)]; rfl)
      · refine .inr ⟨b, off, e1, hlt, fun j u hu => hc j u ?_⟩
        have hj : j < (i64s m).length := (List.getElem?_eq_some_iff.1 hu).1
        have e2 : i64s (m ++ List.replicate (D.length - m.length) 0) = i64s m ++ i64s (List.replicate (D.length - m.length) 0) := by simp [i64s]
        rw [e2, List.getElem?_append_left hj]; exact hu)
    clear KP hw4 hH4 HH3
    go_wp2_with fail
    go_ret
    exact ⟨m, some ⟨g, 0, none⟩, c2, HC.out, rfl, hSl.out, fun x hx => by (injection hx with hx; subst hx; exact hg0), ((b1.trans b2).trans b3).trans b4⟩
end Go.Proofs.Ytafibgekikjlhaa
