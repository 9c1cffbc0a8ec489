/- slices.Delete of one element, at a row of the call's own. -/
import Derived.Test.YtkechaniaidieaaMlSend
import Derived.Lib.SliceRun
namespace Go.Proofs.Ytkechaniaidieaa
open Go.RowKit Vm
set_option linter.unusedVariables false
set_option linter.unusedSimpArgs false

/-- 'clear(s)', s a slice of n > 0 elements of K cells each: some cells are written, from the first one on. -/
theorem run_clear_recs {P : Program} (w : World) (t e ty : TypeId) (z : Value) (K : Nat) (ht : P.underlying t = some (.slice e)) (hv : ∀ w, (zeroValue e).run P w = .ok z w) (hz : z.cells.size = K) (hK : 0 < K) (h1 : ∀ v ∈ z.cells.toList, v.oneCell' = true) (b o n c : Nat) (hn : 0 < n)
    (hc : ∀ j, j < n * K → (w.cell? ⟨b, o + j, none⟩).isSome = true) (hf : ∀ j, j < n * K → w.frozen? ⟨b, o + j, none⟩ = false) :
    ∃ vs : List Value, vs.length = n * K ∧ (Builtin.clear_ #[t] ty #[.slice (some ⟨b, o, none⟩) n c]).run P w = .ok (.tuple #[]) (w.setCells b o vs) := by
  have hlen : (Builtin.zeroCells z.cells n).toList.length = n * K := by simp [Builtin.zeroCells, hz]
  have hone : ∀ v ∈ (Builtin.zeroCells z.cells n).toList, v.oneCell' = true := by
    intro v hv'
    simp only [Builtin.zeroCells, Array.toList_map, List.mem_map] at hv'
    obtain ⟨i, _, rfl⟩ := hv'
    have hi : i % z.cells.size < z.cells.size := Nat.mod_lt _ (by omega)
    rw [getElem!_pos z.cells _ hi]
    exact h1 _ (by simp)
  have hst := run_storeCells_cells (P := P) b o (Builtin.zeroCells z.cells n).toList 0 w (by rw [hlen]; simpa using hc) (by rw [hlen]; simpa using hf) hone
  simp only [Nat.add_zero] at hst
  obtain ⟨m, rfl⟩ : ∃ m, n = m + 1 := ⟨n - 1, by omega⟩
  exact ⟨(Builtin.zeroCells z.cells (m + 1)).toList, hlen, by simp [Builtin.clear_, run_underlying ht, hv, hst]⟩
def putAt : List Value → Nat → List Value → List Value
  | xs, _, [] => xs
  | xs, o, v :: r => putAt (xs.set o v) (o + 1) r
theorem putAt_eq : ∀ (vs xs : List Value) (o : Nat), o + vs.length ≤ xs.length → putAt xs o vs = xs.take o ++ vs ++ xs.drop (o + vs.length) := by
  intro vs
  induction vs with
  | nil => intro xs o h; simp [putAt]
  | cons v r ih =>
    intro xs o h
    simp only [List.length_cons] at h
    rw [putAt, ih _ _ (by rw [List.length_set]; omega)]
    have h1 : (xs.set o v).take (o + 1) = xs.take o ++ [v] := by
      have ho : o < xs.length := by omega
      rw [List.take_add_one]
      rw [List.take_set_of_le (Nat.le_refl o)]
      simp [ho]
    have h2 : (xs.set o v).drop (o + 1 + r.length) = xs.drop (o + 1 + r.length) := by rw [List.drop_set_of_lt (by omega)]
    rw [h1, h2, List.length_cons]
    simp [show o + 1 + r.length = o + (r.length + 1) from by omega]
theorem putAt_length (vs xs : List Value) (o : Nat) (h : o + vs.length ≤ xs.length) : (putAt xs o vs).length = xs.length := by
  rw [putAt_eq vs xs o h]; simp; omega
theorem ownN_setCells {base N g c size : Nat} {e : TypeId} : ∀ (vs : List Value) (w : World) (xs : List Value) (o : Nat), w.ownsRow base e size (.slice (some ⟨g, 0, none⟩) N c) N xs → o + vs.length ≤ xs.length →
    (w.setCells g o vs).ownsRow base e size (.slice (some ⟨g, 0, none⟩) N c) N (putAt xs o vs) := by
  intro vs
  induction vs with
  | nil => intro w xs o h _; exact h
  | cons v r ih =>
    intro w xs o h hl
    simp only [List.length_cons] at hl
    exact ih _ _ _ (ownN_store h (by omega)) (by rw [List.length_set]; omega)
theorem ownN_short {w : World} {base n m c size : Nat} {a : Option Addr} {e : TypeId} {xs : List Value} (h : w.ownsRow base e size (.slice a n c) n xs) (hm : m ≤ n) : w.ownsRow base e size (.slice a m c) m (xs.take (m * size)) := by
  obtain ⟨hl, hr⟩ := h
  have hms : m * size ≤ n * size := Nat.mul_le_mul_right _ hm
  refine ⟨by rw [List.length_take, hl]; omega, ?_⟩
  rcases hr with ⟨hv, h0⟩ | ⟨g, cap, cur, hv, hg, hh, h1, h2, h3, h4⟩
  · obtain rfl : m = 0 := by omega
    injection hv with h5 h6 h7
    subst h5 h7
    exact .inl ⟨rfl, rfl⟩
  · injection hv with h5 h6 h7
    subst h5 h7
    refine .inr ⟨g, c, cur, rfl, hg, hh, by omega, h2, h3, ?_⟩
    rw [← h4, List.take_take, Nat.min_eq_left hms]
theorem setCells_size (g : Nat) : ∀ (vs : List Value) (o : Nat) (w : World), (w.setCells g o vs).heap.size = w.heap.size := by
  intro vs
  induction vs with
  | nil => intro o w; rfl
  | cons v r ih => intro o w; rw [World.setCells, ih]; simp
theorem setCells_block (g : Nat) : ∀ (vs : List Value) (o : Nat) (w : World) (k : Nat), k ≠ g → (w.setCells g o vs).heap[k]? = w.heap[k]? := by
  intro vs
  induction vs with
  | nil => intro o w k _; rfl
  | cons v r ih => intro o w k hk; rw [World.setCells, ih _ _ _ hk]; exact Below.heap_setCell w ⟨g, o, none⟩ v k hk
theorem below_setCells0 {B g : Nat} {a : World} (hb : B ≤ g) : ∀ (vs : List Value) (o : Nat) (w : World), Below B a w → Below B a (w.setCells g o vs) := by
  intro vs
  induction vs with
  | nil => intro o w h; exact h
  | cons v r ih => intro o w h; exact ih _ _ (h.setCell (p := ⟨g, o, none⟩) hb v)
def delL (L : List Pk) (p : Nat) : List Pk := L.take p ++ L.drop (p + 1)
theorem delL_len (L : List Pk) (p : Nat) (h : p < L.length) : (delL L p).length = L.length - 1 := by unfold delL; simp; omega
theorem del_cells (L : List Pk) (N p : Nat) (hN : L.length = N) (hp : p < N) : (putAt (pkCells L) (p * 4) ((pkCells L).drop ((p + 1) * 4))).take ((N - 1) * 4) = pkCells (delL L p) := by
  have hl := pkCells_length L
  have hd : ((pkCells L).drop ((p + 1) * 4)).length = (N - 1 - p) * 4 := by rw [List.length_drop, hl, hN]; omega
  rw [putAt_eq _ _ _ (by rw [hd, hl, hN]; omega), delL, pkCells_append, pkCells_take, pkCells_drop]
  have h1 : ((pkCells L).take (p * 4)).length = p * 4 := by rw [List.length_take, hl, hN]; omega
  rw [List.take_append_of_le_length (by rw [List.length_append, h1, hd]; omega)]
  rw [List.take_of_length_le (by rw [List.length_append, h1, hd]; omega)]
/-- Behind a deletion in the row at block g. -/
def DelPost (w : World) (base g c : Nat) (D : List Pk) (e : Ending) (w' : World) : Prop :=
  e = .returned (.slice (some ⟨g, 0, none⟩) D.length c) ∧ w'.ownsRow base 37 4 (.slice (some ⟨g, 0, none⟩) D.length c) D.length (pkCells D) ∧ w.heap.size ≤ w'.heap.size ∧ (∀ k, k < w.heap.size → k ≠ g → w'.heap[k]? = w.heap[k]?) ∧ Below g w w'
set_option maxRecDepth 100000 in
set_option maxHeartbeats 8000000 in
theorem mdel_walk (L : List Pk) (N g c base p : Nat) (w : World) (hN : L.length = N) (hNm : N ≤ 256) (hp : p < N) (hown : w.ownsRow base 37 4 (.slice (some ⟨g, 0, none⟩) N c) N (pkCells L)) (hbase : base ≤ g) :
    Calls Try.prog 25 #[.slice (some ⟨g, 0, none⟩) N c, .int .i64 p, .int .i64 (p + 1 : Nat)] w (DelPost w base g c (delL L p)) := by
  obtain ⟨i0, hi, hz0, hz1, hz2⟩ := info_parts info_pk
  have hNc := (ownN_cap hown).2
  obtain ⟨g', e, hgb, hgl, hfz, hcc⟩ := ownN_at hown (by omega)
  injection e with e
  injection e with e1 _ _
  subst e1
  have hXL : (pkCells L).length = N * 4 := by rw [pkCells_length, hN]
  have hdl : ((pkCells L).drop ((p + 1) * 4)).length = (N - 1 - p) * 4 := by rw [List.length_drop, hXL]; omega
  have hcd : ∀ j u, ((pkCells L).drop ((p + 1) * 4))[j]? = some u → w.cell? ⟨g, (p + 1) * 4 + j, none⟩ = some u := fun j u hu => by
    rw [List.getElem?_drop] at hu; exact hcc _ _ hu
  have hcs : ∀ j, j < N * 4 → (w.cell? ⟨g, j, none⟩).isSome = true := fun j hj => by
    rw [hcc j _ (List.getElem?_eq_getElem (by rw [hXL]; exact hj))]; rfl
  have HO := Lib.hid hown
  have HNe := Lib.hid hN
  have HCD := Lib.hid hcd
  have HCS := Lib.hid hcs
  have HFZ := Lib.hid hfz
  have p1 : (p : Int) ≤ (N : Int) := by omega
  have p2 : 0 ≤ (p : Int) := by omega
  have p3 : ((p + 1 : Nat) : Int) ≤ (N : Int) := by omega
  have p4 : 0 ≤ ((p + 1 : Nat) : Int) := by omega
  have p5 : (p : Int) ≤ ((p + 1 : Nat) : Int) := by omega
  have p6 : ((p : Int) == ((p + 1 : Nat) : Int)) = false := beq_eq_false_iff_ne.2 (by omega)
  have p7 : (p : Int) ≤ (c : Int) := by omega
  have p8 : (N : Int) ≤ (c : Int) := by omega
  have p9 : ((p + 1 : Nat) : Int) ≤ (c : Int) := by omega
  have q1 : (p : Int) ≤ (p : Int) + 1 := by omega
  have q2 : 0 ≤ (p : Int) + 1 := by omega
  have q3 : (p : Int) + 1 ≤ (N : Int) := by omega
  have q4 : (p : Int) + 1 ≤ (c : Int) := by omega
  clear hown hN hcd hcs hfz hcc
  go_enter Try.func25, Try.ntmps25
  go_upto_region 5 with fail
  have hadd : ∀ o j, (⟨g, o, none⟩ : Addr).add j = ⟨g, o + j, none⟩ := fun o j => by unfold Addr.add; split <;> simp_all
  have hroom : p + (N - (p + 1)) ≤ c := by omega
  have hone : ∀ u ∈ (pkCells L).drop ((p + 1) * 4), u.oneCell' = true := fun u hu => pkCells_one L u (List.mem_of_mem_drop hu)
  have hn2 : ((pkCells L).drop ((p + 1) * 4)).length = (N - (p + 1)) * 4 := by rw [hdl]; omega
  have hA : ∀ j u, ((pkCells L).drop ((p + 1) * 4))[j]? = some u → w.drew.cell? ((⟨g, (p + 1) * 4, none⟩ : Addr).add j) = some u := fun j u hu => by rw [hadd]; exact HCD.out j u hu
  have hB : ∀ j, j < ((pkCells L).drop ((p + 1) * 4)).length → (w.drew.cell? ⟨g, 0 + p * 4 + j, none⟩).isSome = true ∧ w.drew.frozen? ⟨g, 0 + p * 4 + j, none⟩ = false := fun j hj => ⟨HCS.out _ (by rw [hn2] at hj; omega), HFZ.out _⟩
  clear hadd
  have HA := Lib.hid hA
  have HB := Lib.hid hB
  have HN2 := Lib.hid hn2
  have HONE := Lib.hid hone
  clear hA hB hn2 hone hdl
  rcases (show c = p + 1 ∨ ¬ c = p + 1 by omega) with hc1 | hc1
  · subst hc1
    have hnil : (pkCells L).drop ((p + 1) * 4) = [] := List.eq_nil_of_length_eq_zero (by rw [HN2.out]; omega)
    go_wp2_with fail
    go_region_law (fail)
    all_goals
      have hKN : p + 1 = N := by omega
      obtain ⟨w2, hw2⟩ : ∃ w2, w2 = w.drew := ⟨_, rfl⟩
      have own2 : w2.ownsRow base 37 4 (.slice (some ⟨g, 0, none⟩) N (p + 1)) N (putAt (pkCells L) (p * 4) ((pkCells L).drop ((p + 1) * 4))) := by
        rw [hw2, hnil]
        exact HO.out
      have b2 : Below g w w2 := by rw [hw2]; exact (Below.refl g w).drew
      have hz2 : w2.heap.size = w.heap.size := by rw [hw2]; rfl
      have hk2 : ∀ k, k ≠ g → w2.heap[k]? = w.heap[k]? := fun k hk => by rw [hw2]; rfl
      rw [← hw2]
      clear hw2
      have hYL : (putAt (pkCells L) (p * 4) ((pkCells L).drop ((p + 1) * 4))).length = N * 4 := by rw [putAt_length _ _ _ (by rw [HN2.out, hXL]; omega), hXL]
      have hYc := del_cells L N p HNe.out hp
      generalize putAt (pkCells L) (p * 4) ((pkCells L).drop ((p + 1) * 4)) = Y at *
      obtain ⟨g', e, _, hgl2, hfz2, hcc2⟩ := ownN_at own2 (by omega)
      injection e with e
      injection e with e1 _ _
      subst e1
      have hzv : ∀ w, (zeroValue 37).run Try.prog w = .ok (.agg #[.int .i64 0, .int .i64 0, .int .i64 0, .string ByteArray.empty]) w := fun w => by kernel_rfl
      obtain ⟨vs, hvl, hvs⟩ := run_clear_recs (P := Try.prog) w2 26 37 0 _ 4 Try.underlying26 hzv (by rfl) (by omega) (fun v hv => by simp [Value.cells] at hv; rcases hv with rfl | rfl | rfl | rfl <;> rfl) g (p * 4) (N - p) 1 (by omega) (fun j hj => by
          have hlt3 : p * 4 + j < Y.length := by rw [hYL]; omega
          rw [hcc2 (p * 4 + j) _ (List.getElem?_eq_getElem hlt3)]; rfl) (fun j hj => hfz2 _)
      have u2 : (p : Int) ≤ (N : Int) := by omega
      have HOw := Lib.hid own2
      have HYc := Lib.hid hYc
      have HYL := Lib.hid hYL
      have HVl := Lib.hid hvl
      have HKN := Lib.hid hKN
      clear hcc2 hfz2 own2 hYc hYL hvl hKN
      go_wp2_with (simp only [hvs])
      go_ret
      have hlen : (delL L p).length = p := by rw [delL_len L p (by rw [HNe.out]; exact hp), HNe.out]; have := HKN.out; omega
      have own3 := ownN_short (ownN_setCells vs w2 Y (p * 4) HOw.out (by rw [HVl.out, HYL.out]; have := HKN.out; omega)) (show p ≤ N by have := HKN.out; omega)
      have hfin : (putAt Y (p * 4) vs).take (p * 4) = pkCells (delL L p) := by
        rw [putAt_eq _ _ _ (by rw [HVl.out, HYL.out]; have := HKN.out; omega), List.append_assoc, List.take_append_of_le_length (by rw [List.length_take, HYL.out]; have := HKN.out; omega), List.take_take, Nat.min_self, ← HYc.out]
        rw [show N - 1 = p from by have := HKN.out; omega]
      rw [hfin] at own3
      refine ⟨by rw [hlen]; rfl, by rw [hlen]; exact own3, by rw [setCells_size, hz2]; exact Nat.le_refl _, fun k _ hk => by rw [setCells_block _ _ _ _ _ hk]; exact hk2 k hk, below_setCells0 (Nat.le_refl g) _ _ _ b2⟩
  · go_wp2_with fail
    go_region_law
      ((refine step_append_room (by rfl) _ _ _ (by rfl) 37 i0 4 Try.underlying26 hi hz1 g 0 p c (by rfl) ⟨g, (p + 1) * 4, none⟩ (N - (p + 1)) (c - (p + 1)) ((pkCells L).drop ((p + 1) * 4)) (by rfl) HN2.out HA.out HONE.out hroom HB.out ?_))
    all_goals
      generalize hK : p + (N - (p + 1)) = K at *
      have hKN : K + 1 = N := by omega
      obtain ⟨w2, hw2⟩ : ∃ w2, w2 = w.drew.setCells g (p * 4) ((pkCells L).drop ((p + 1) * 4)) := ⟨_, rfl⟩
      have own2 : w2.ownsRow base 37 4 (.slice (some ⟨g, 0, none⟩) N c) N (putAt (pkCells L) (p * 4) ((pkCells L).drop ((p + 1) * 4))) := by
        rw [hw2]
        have hXL2 : (pkCells L).length = N * 4 := hXL
        exact ownN_setCells _ w.drew _ _ HO.out (by rw [HN2.out, hXL2]; omega)
      have b2 : Below g w w2 := by rw [hw2]; exact below_setCells0 (Nat.le_refl g) _ _ _ ((Below.refl g w).drew)
      have hz2 : w2.heap.size = w.heap.size := by rw [hw2, setCells_size]; rfl
      have hk2 : ∀ k, k ≠ g → w2.heap[k]? = w.heap[k]? := fun k hk => by rw [hw2, setCells_block _ _ _ _ _ hk]; rfl
      rw [← hw2]
      clear hw2
      have hYL : (putAt (pkCells L) (p * 4) ((pkCells L).drop ((p + 1) * 4))).length = N * 4 := by rw [putAt_length _ _ _ (by rw [HN2.out, hXL]; omega), hXL]
      have hYc := del_cells L N p HNe.out hp
      generalize putAt (pkCells L) (p * 4) ((pkCells L).drop ((p + 1) * 4)) = Y at *
      obtain ⟨g', e, _, hgl2, hfz2, hcc2⟩ := ownN_at own2 (by omega)
      injection e with e
      injection e with e1 _ _
      subst e1
      have hzv : ∀ w, (zeroValue 37).run Try.prog w = .ok (.agg #[.int .i64 0, .int .i64 0, .int .i64 0, .string ByteArray.empty]) w := fun w => by kernel_rfl
      obtain ⟨vs, hvl, hvs⟩ := run_clear_recs (P := Try.prog) w2 26 37 0 _ 4 Try.underlying26 hzv (by rfl) (by omega) (fun v hv => by simp [Value.cells] at hv; rcases hv with rfl | rfl | rfl | rfl <;> rfl) g (K * 4) (N - K) (c - K) (by omega) (fun j hj => by
          have hlt3 : K * 4 + j < Y.length := by rw [hYL]; omega
          rw [hcc2 (K * 4 + j) _ (List.getElem?_eq_getElem hlt3)]; rfl) (fun j hj => hfz2 _)
      have u1 : 0 ≤ (K : Int) := by omega
      have u2 : (K : Int) ≤ (N : Int) := by omega
      have u3 : ¬ c = K := by omega
      have u4 : (K : Int) ≤ (c : Int) := by omega
      have HOw := Lib.hid own2
      have HYc := Lib.hid hYc
      have HYL := Lib.hid hYL
      have HVl := Lib.hid hvl
      have HKN := Lib.hid hKN
      clear hcc2 hfz2 own2 hYc hYL hvl hK hKN p1 p3 p4 p5 p6 p7 p9 q1 q2 q3 q4
      go_wp2_with (simp only [hvs])
      go_ret
      have hlen : (delL L p).length = K := by rw [delL_len L p (by rw [HNe.out]; exact hp), HNe.out]; have := HKN.out; omega
      have own3 := ownN_short (ownN_setCells vs w2 Y (K * 4) HOw.out (by rw [HVl.out, HYL.out]; have := HKN.out; omega)) (show K ≤ N by have := HKN.out; omega)
      have hfin : (putAt Y (K * 4) vs).take (K * 4) = pkCells (delL L p) := by
        rw [putAt_eq _ _ _ (by rw [HVl.out, HYL.out]; have := HKN.out; omega), List.append_assoc, List.take_append_of_le_length (by rw [List.length_take, HYL.out]; have := HKN.out; omega), List.take_take, Nat.min_self, ← HYc.out]
        rw [show N - 1 = K from by have := HKN.out; omega]
      rw [hfin] at own3
      refine ⟨by rw [hlen]; rfl, by rw [hlen]; exact own3, by rw [setCells_size, hz2]; exact Nat.le_refl _, fun k _ hk => by rw [setCells_block _ _ _ _ _ hk]; exact hk2 k hk, below_setCells0 (Nat.le_refl g) _ _ _ b2⟩
end Go.Proofs.Ytkechaniaidieaa
