/- The walk of heavy's Top. -/
import Derived.Test.YthghnpopcnnidaaHvOp
import Derived.Test.YthghnpopcnnidaaSrt
namespace Go.Proofs.Ythghnpopcnnidaa
open Go.RowKit Vm
open Go.Sort (grow HoldsK putRowK flatK size_flatK get_flatK size_putRowK)
set_option linter.unusedVariables false
set_option linter.unusedSimpArgs false

instance : Inhabited Ta := ⟨ta0⟩
theorem oft_less (a b : Ta) : ltOf oftI a b = decide (b.n < a.n ∨ (b.n = a.n ∧ a.k < b.k)) := by
  unfold ltOf oftI orI cmpI
  by_cases h1 : b.n < a.n
  · simp [h1]
  · by_cases h2 : a.n < b.n
    · have : ¬ b.n = a.n := by omega
      simp [h1, h2, this]
    · have : b.n = a.n := by omega
      by_cases h3 : a.k < b.k
      · simp [this, h3]
      · by_cases h4 : b.k < a.k <;> simp [this, h3, h4]
theorem oft_swo : Go.Sort.SWO (ltOf oftI) where
  irrefl x := by rw [oft_less]; simp
  trans x y z h1 h2 := by rw [oft_less] at *; simp only [decide_eq_true_eq] at *; omega
  ntrans x y z h1 h2 := by rw [oft_less] at *; simp only [decide_eq_false_iff_not] at *; omega
def topL (L : List Ta) : List Ta := (Go.Sort.pdq (ltOf oftI) L.toArray 0 L.toArray.size (Go.Lib.bitLen L.toArray.size) true true).toList
theorem top_sorts (L : List Ta) : Go.Sort.PermIn 0 L.toArray.size L.toArray (Go.Sort.pdq (ltOf oftI) L.toArray 0 L.toArray.size (Go.Lib.bitLen L.toArray.size) true true) ∧ Go.Sort.SortedIn (ltOf oftI) 0 L.toArray.size (Go.Sort.pdq (ltOf oftI) L.toArray 0 L.toArray.size (Go.Lib.bitLen L.toArray.size) true true) :=
  Go.Sort.pdq_sorts (ltOf oftI) oft_swo L.toArray 0 L.toArray.size (Go.Lib.bitLen L.toArray.size) true true (Nat.zero_le _) (Nat.le_refl _) (Or.inl rfl)
theorem topL_len (L : List Ta) : (topL L).length = L.length := by
  have := (top_sorts L).1.1
  unfold topL
  rw [Array.length_toList, this]; simp
theorem topL_perm (L : List Ta) : (topL L).Perm L := by
  obtain ⟨h1, _, h3⟩ := (top_sorts L).1
  unfold topL
  generalize Go.Sort.pdq (ltOf oftI) L.toArray 0 L.toArray.size (Go.Lib.bitLen L.toArray.size) true true = d' at *
  have e1 : d'.extract 0 L.toArray.size = d' := by rw [← h1]; exact Array.extract_size
  rw [e1, Array.extract_size] at h3
  simpa using h3
theorem ta_holds {w : World} {g N c : Nat} {L : List Ta} {base : Nat} (h : w.ownsRow base 45 3 (.slice (some ⟨g, 0, none⟩) N c) N (taCells L)) (hN : L.length = N) (h0 : 0 < N) : HoldsK taOf 3 w g 0 L.toArray := by
  obtain ⟨g', e, _, _, hf, hc⟩ := ownN_at h h0
  injection e with e
  injection e with e1 _ _
  subst e1
  intro j hj
  rw [size_flatK] at hj
  have hj3 : j / 3 < L.length := by simp at hj; omega
  have := recs_at taOf 3 taOf_len L ta0 (j / 3) (j % 3) hj3 (Nat.mod_lt _ (by omega))
  rw [show j / 3 * 3 + j % 3 = j by omega] at this
  rw [get_flatK _ _ _ _ hj, Nat.zero_add]
  refine ⟨?_, hf j⟩
  refine hc j _ ?_
  show (taCells L)[j]? = _
  unfold taCells
  rw [this]
  have e2 : L.toArray[j / 3]! = L.getD (j / 3) ta0 := by
    rw [getElem!_pos L.toArray (j / 3) (by simpa using hj3)]; simp [List.getD, hj3]
  rw [e2]
  have hl : j % 3 < (taOf (L.getD (j / 3) ta0)).length := by rw [taOf_len]; exact Nat.mod_lt _ (by omega)
  rw [List.getElem?_eq_getElem hl]
  show some _ = some (id _)
  rw [getElem!_pos (taOf (L.getD (j / 3) ta0)) (j % 3) hl]; rfl
theorem ta_of_holds {w : World} {g : Nat} {T : List Ta} (h : HoldsK taOf 3 w g 0 T.toArray) (hg : g < w.heap.size) : Sl w w.heap.size (some ⟨g, 0, none⟩) (taCells T) := by
  refine .inr ⟨g, 0, rfl, hg, fun j u hu => ?_⟩
  have hj : j < T.length * 3 := by
    have := (List.getElem?_eq_some_iff.1 hu).1
    rw [taCells_length] at this; exact this
  have hj3 : j / 3 < T.length := by omega
  have h1 := recs_at taOf 3 taOf_len T ta0 (j / 3) (j % 3) hj3 (Nat.mod_lt _ (by omega))
  rw [show j / 3 * 3 + j % 3 = j by omega] at h1
  have h2 := (h.cell (i := j / 3) (c := j % 3) (by simpa using hj3) (Nat.mod_lt _ (by omega))).1
  rw [show 0 + j / 3 * 3 + j % 3 = j by omega] at h2
  rw [Nat.zero_add, h2]
  have e2 : T.toArray[j / 3]! = T.getD (j / 3) ta0 := by
    rw [getElem!_pos T.toArray (j / 3) (by simpa using hj3)]; simp [List.getD, hj3]
  rw [e2]
  unfold taCells at hu
  rw [h1] at hu
  have hl : j % 3 < (taOf (T.getD (j / 3) ta0)).length := by rw [taOf_len]; exact Nat.mod_lt _ (by omega)
  rw [List.getElem?_eq_getElem hl] at hu
  rw [← hu, getElem!_pos (taOf (T.getD (j / 3) ta0)) (j % 3) hl]
theorem below_sortK {w : World} {B g n : Nat} (d : Array Ta) (os : Array Obj) (hB : B ≤ g) (hw : B ≤ w.heap.size) : Below B w (sortWorldK taOf 3 w g 0 n d os) := by
  refine ⟨rfl, rfl, rfl, ?_, fun k hk => ?_⟩
  · exact size_sortWorldK_c taOf 3 w g 0 n d os
  · unfold sortWorldK
    rw [Go.Sort.heap_grow_old _ _ (by rw [size_putRowK]; show k < w.heap.size; omega)]
    have : g ≠ k := by omega
    simp [putRowK, Go.Sort.putRow, Go.Sort.mapBlock, Go.Sort.ahead, Array.getElem?_modify, this]
set_option maxRecDepth 100000 in
theorem sort_t (L : List Ta) (N g c base : Nat) (w : World) (hN : L.length = N) (h0 : 0 < N) (hNm : N ≤ 1000) (h : w.ownsRow base 45 3 (.slice (some ⟨g, 0, none⟩) N c) N (taCells L)) (hb : base ≤ w.heap.size) :
    Calls Try.prog 31 #[.slice (some ⟨g, 0, none⟩) N c, .func (.func 32) #[] #[]] w fun e w' => e = .returned (.tuple #[]) ∧ Sl w' w'.heap.size (some ⟨g, 0, none⟩) (taCells (topL L)) ∧ Below base w w' := by
  obtain ⟨g', e, hgb, hgl, _, _⟩ := ownN_at h h0
  injection e with e
  injection e with e1 _ _
  subst e1
  have hH := ta_holds h hN h0
  have eg : ∀ args w, (callFunc 32 args).run Try.prog w = .ok (.enter 32 args) w := enters_of Try.func32 (by kernel_rfl) rfl
  have hcmp : CmpLays Try.prog 32 #[] taOf 3 oftI g 0 L.toArray.size w := fun m os dk _ x y => by
    rw [Array.append_empty]
    exact oft_walk x y _
  have hcon := AnyQ.slices_SortFunc_eq Try.sortTa 3 Try.isAgg45 Try.sizeOf45 taOf taOf_len (fun x v hv => by simp [taOf] at hv; rcases hv with rfl | rfl | rfl <;> rfl) oftI oft_swo 32 #[] g 0 c L.toArray w eg hcmp hH hgl (by simp; omega)
  change Calls Try.prog 31 _ _ _ at hcon
  rw [show L.toArray.size = N by simpa using hN] at hcon
  refine hcon.mono ?_
  rintro e w' ⟨rfl, n, os, rfl⟩
  have hs : (topL L).toArray.size = L.toArray.size := by simp [topL_len]
  have e2 : Go.Sort.pdq (ltOf oftI) L.toArray 0 N (Go.Lib.bitLen N) true true = (topL L).toArray := by
    unfold topL
    rw [show L.toArray.size = N by simpa using hN]
  rw [e2]
  refine ⟨rfl, ta_of_holds (holdsK_sortWorldK_c taOf 3 w g 0 L.toArray (topL L).toArray n os hH hgl hs) ?_, below_sortK _ _ hgb hb⟩
  have := size_sortWorldK_c taOf 3 w g 0 n (topL L).toArray os
  omega
/-- A row told. -/
def TopPost (L : List Ta) (K : Nat) (w : World) (e : Ending) (w' : World) : Prop := ∃ a' c', e = .returned (.slice a' K c') ∧ Sl w' w'.heap.size a' (taCells ((topL L).take K)) ∧ (∀ x, a' = some x → w.heap.size ≤ x.block ∧ x.block < w'.heap.size) ∧ Below w.heap.size w w'
set_option maxRecDepth 100000 in
set_option maxHeartbeats 4000000 in
theorem top_walk (n : Nat) (H : Hv) (g : Nat) (a : Option Addr) (c : Nat) (w : World) (hn0 : 1 ≤ n) (hn1 : n ≤ 1000000) (hNm : H.L.length ≤ 1000) (h : HvW w g H a c) :
    Calls Try.prog 19 #[.pointer (some ⟨g, 0, none⟩), .int .i64 n] w (TopPost H.L (min n H.L.length) w) := by
  have HC := Lib.hid (clone_ta H.L H.L.length a c w.heap.size w rfl (by omega) (ownN_sl h.row) (Nat.le_refl _))
  obtain ⟨m0, m1, m2, hfz⟩ := h.three
  have hgl := h.lt
  obtain ⟨N, hN⟩ : ∃ N, H.L.length = N := ⟨_, rfl⟩
  rw [hN] at HC m2 hNm ⊢
  obtain ⟨K, hK⟩ : ∃ K, min n N = K := ⟨_, rfl⟩
  have hKN : K ≤ N := by omega
  rw [hK]
  have HKm := Lib.hid (show min (n : Int) (N : Int) = (K : Int) by omega)
  have HN := Lib.hid hN
  have g1 : ¬ (n : Int) < 1 := by omega
  clear h hfz m0 m1 hN hK
  go_enter Try.func19, Try.ntmps19
  go_wp2_with fail
  refine HC.out.mono ?_
  rintro e w1 ⟨a1, c1, rfl, own1, b1⟩
  have hlow := Lib.hid (own_low own1)
  have hcap := (ownN_cap own1).2
  rcases Nat.eq_zero_or_pos N with h0 | h0
  · subst h0
    obtain rfl : K = 0 := by omega
    have KS : Calls Try.prog 31 #[.slice a1 0 c1, .func (.func 32) #[] #[]] w1 fun e w' => e = .returned (.tuple #[]) ∧ w' = w1 := AnyF.slices_SortFunc_none Try.sortTa a1 c1 _ w1
    have HKS := Lib.hid KS
    have hk : min (n : Int) 0 = 0 := by omega
    clear HC own1 KS hcap
    go_wp2_with fail
    refine HKS.out.mono ?_
    rintro e w2 ⟨rfl, hw⟩
    subst hw
    have hc0 : (0 : Int) ≤ (c1 : Int) := by omega
    go_wp2_with fail
    go_ret
    exact ⟨a1, c1, rfl, by rw [List.take_zero]; exact Sl.nil _ _ _, hlow.out, b1⟩
  · obtain ⟨gm, rfl, _, _, _, _⟩ := ownN_at own1 h0
    have HKS := Lib.hid (sort_t H.L N gm c1 w.heap.size w1 HN.out h0 (by omega) own1 b1.size)
    have hk := HKm.out
    have hk0 : 0 ≤ (K : Int) := by omega
    have hkc : (K : Int) ≤ (c1 : Int) := by omega
    have hkc2 : K ≤ c1 := by omega
    clear HC own1 HKm
    go_wp2_with fail
    refine HKS.out.mono ?_
    rintro e w2 ⟨rfl, s2, b2⟩
    have hsl := Lib.hid (ta_pre s2 K)
    have hBB := Lib.hid (b1.trans b2)
    have hz := b2.size
    clear HKS s2
    go_wp2_with fail
    go_ret
    exact ⟨_, c1, rfl, hsl.out, fun x hx => by have := hlow.out x hx; omega, hBB.out⟩
end Go.Proofs.Ythghnpopcnnidaa
