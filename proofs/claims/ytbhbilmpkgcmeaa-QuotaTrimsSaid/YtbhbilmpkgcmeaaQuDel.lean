/- slices.DeleteFunc by quota.Trim's closure, at a row of the call's own. -/
import Derived.Test.YtbhbilmpkgcmeaaQuTrim
import Derived.Test.YtbhbilmpkgcmeaaSt3
namespace Go.Proofs.Ytbhbilmpkgcmeaa
open Go.RowKit Vm
set_option linter.unusedVariables false
set_option linter.unusedSimpArgs false

/-- 'clear(s)', s a slice of n > 0 elements of K cells each: some cells are written, from the first one on. -/
theorem run_clear_recs {P : Program} (w : World) (t e ty : TypeId) (z : Value) (K : Nat) (ht : P.underlying t = some (.slice e)) (hv : ∀ w, (zeroValue e).run P w = .ok z w) (hz : z.cells.size = K) (hK : 0 < K) (h1 : ∀ v ∈ z.cells.toList, v.oneCell' = true) (b o n c : Nat) (hn : 0 < n)
    (hc : ∀ j, j < n * K → (w.cell? ⟨b, o + j, none⟩).isSome = true) (hf : ∀ j, j < n * K → w.frozen? ⟨b, o + j, none⟩ = false) :
    ∃ vs : List Value, (Builtin.clear_ #[t] ty #[.slice (some ⟨b, o, none⟩) n c]).run P w = .ok (.tuple #[]) (w.setCells b o vs) := by
  have hlen : (Builtin.zeroCells z.cells n).toList.length = n * K := by simp [Builtin.zeroCells, hz]
  have hone : ∀ v ∈ (Builtin.zeroCells z.cells n).toList, v.oneCell' = true := by
    intro v hv'
    simp only [Builtin.zeroCells, Array.toList_map, List.mem_map] at hv'
    obtain ⟨i, _, rfl⟩ := hv'
    have hi : i % z.cells.size < z.cells.size := Nat.mod_lt _ (by omega)
    rw [getElem!_pos z.cells _ hi]
    exact h1 _ (by simp)
  have hst := run_storeCells_cells (P := P) b o (Builtin.zeroCells z.cells n).toList 0 w (by rw [hlen]; simpa using hc) (by rw [hlen]; simpa using hf) hone
  simp only [Nat.add_zero] at hst
  obtain ⟨m, rfl⟩ : ∃ m, n = m + 1 := ⟨n - 1, by omega⟩
  exact ⟨(Builtin.zeroCells z.cells (m + 1)).toList, by simp [Builtin.clear_, run_underlying ht, hv, hst]⟩
theorem ac_store3 {w : World} {base N g c k : Nat} {l : List Ac} (h : w.ownsRow base 102 3 (.slice (some ⟨g, 0, none⟩) N c) N (acCells l)) (hk : k < l.length) (x : Ac) :
    (((w.setCell ⟨g, k * 3, none⟩ (.int .i64 x.o)).setCell ⟨g, k * 3 + 1, none⟩ (.int .i64 x.l)).setCell ⟨g, k * 3 + 2, none⟩ (.int .i64 x.s)).ownsRow base 102 3 (.slice (some ⟨g, 0, none⟩) N c) N (acCells (l.set k x)) := by
  have hL : (acCells l).length = l.length * 3 := acCells_length l
  have h0 := ownN_store (u := .int .i64 x.o) h (j := k * 3) (by omega)
  have h1 := ownN_store (u := .int .i64 x.l) h0 (j := k * 3 + 1) (by rw [List.length_set]; omega)
  have h2 := ownN_store (u := .int .i64 x.s) h1 (j := k * 3 + 2) (by rw [List.length_set, List.length_set]; omega)
  have e0 := acCells_set0 l k x.o hk
  rw [Nat.add_zero] at e0
  rw [e0, acCells_set1 _ k x.l (by simpa using hk), acCells_set2 _ k x.s (by simpa using hk)] at h2
  have e5 : ∀ y z : List Ac, y = z → acCells y = acCells z := fun y z h => by rw [h]
  rw [e5 _ (l.set k x) (by simp [List.getD, hk])] at h2
  exact h2
def keepQ (t m now : Int) (l : List Ac) : List Ac := l.filter fun x => !(availQ t m x now == m)
theorem keepQ_snoc_no {t m now : Int} {l : List Ac} {x : Ac} (h : FullQ t m now x) : keepQ t m now (l ++ [x]) = keepQ t m now l := by
  unfold keepQ FullQ at *
  rw [List.filter_append]; simp [h]
theorem keepQ_snoc_yes {t m now : Int} {l : List Ac} {x : Ac} (h : ¬ FullQ t m now x) : keepQ t m now (l ++ [x]) = keepQ t m now l ++ [x] := by
  unfold keepQ FullQ at *
  rw [List.filter_append]; simp [h]
theorem keepQ_all {t m now : Int} {l : List Ac} (h : ∀ p, p < l.length → ¬ FullQ t m now (l.getD p ac0)) : keepQ t m now l = l := by
  unfold keepQ
  rw [List.filter_eq_self]
  intro x hx
  obtain ⟨i, hi, rfl⟩ := List.mem_iff_getElem.1 hx
  have := h i hi
  rw [show l.getD i ac0 = l[i] from by simp [List.getD, hi]] at this
  unfold FullQ at this
  simp [this]
/-- How far a deletion is. -/
def DelSt (t m now : Int) (l X : List Ac) (N i j : Nat) : Prop := X.length = N ∧ X.take i = keepQ t m now (l.take j) ∧ ∀ p, j ≤ p → p < N → X.getD p ac0 = l.getD p ac0
theorem delSt_start {t m now : Int} {l : List Ac} {N k : Nat} (hN : l.length = N) (hk : k < N) (h1 : ∀ p, p < k → ¬ FullQ t m now (l.getD p ac0)) (h2 : FullQ t m now (l.getD k ac0)) : DelSt t m now l l N k (k + 1) := by
  refine ⟨hN, ?_, fun _ _ _ => rfl⟩
  rw [take_get l ac0 k (by omega), keepQ_snoc_no h2, keepQ_all]
  intro p hp
  rw [List.length_take] at hp
  rw [show (l.take k).getD p ac0 = l.getD p ac0 from by simp [List.getD, List.getElem?_take, show p < k by omega]]
  exact h1 p (by omega)
theorem delSt_drop {t m now : Int} {l X : List Ac} {N i j : Nat} (h : DelSt t m now l X N i j) (hN : l.length = N) (hj : j < N) (hf : FullQ t m now (l.getD j ac0)) : DelSt t m now l X N i (j + 1) :=
  ⟨h.1, by rw [take_get l ac0 j (by omega), keepQ_snoc_no hf]; exact h.2.1, fun p h1 h2 => h.2.2 p (by omega) h2⟩
theorem delSt_keep {t m now : Int} {l X : List Ac} {N i j : Nat} (h : DelSt t m now l X N i j) (hN : l.length = N) (hj : j < N) (hij : i < j) (hf : ¬ FullQ t m now (l.getD j ac0)) : DelSt t m now l (X.set i (l.getD j ac0)) N (i + 1) (j + 1) := by
  obtain ⟨h1, h2, h3⟩ := h
  refine ⟨by simp [h1], ?_, fun p h4 h5 => ?_⟩
  · rw [take_get l ac0 j (by omega), keepQ_snoc_yes hf, ← h2, take_get _ ac0 i (by simp [h1]; omega)]
    have hil : i < X.length := by omega
    rw [show (X.set i (l.getD j ac0)).getD i ac0 = l.getD j ac0 from by simp [List.getD, hil]]
    rw [List.take_set_of_le (by omega)]
  · rw [show (X.set i (l.getD j ac0)).getD p ac0 = X.getD p ac0 from by simp [List.getD, List.getElem?_set, show i ≠ p by omega]]
    exact h3 p (by omega) h5
theorem cell_setCells_low (b : Nat) : ∀ (vs : List Value) (o : Nat) (w : World) (k : Nat), k < o → (w.setCells b o vs).cell? ⟨b, k, none⟩ = w.cell? ⟨b, k, none⟩ :=
  fun vs o w k h => World.cell?_setCells_out b vs o w ⟨b, k, none⟩ (fun _ _ => .inl h)
def DelPost (base : Nat) (a : Option Addr) (D : List Ac) (w : World) (e : Ending) (w' : World) : Prop := ∃ c', e = .returned (.slice a D.length c') ∧ Sl w' w'.heap.size a (acCells D) ∧ Below base w w'
set_option maxRecDepth 100000 in
set_option maxHeartbeats 8000000 in
theorem qdel_walk (t m now : Int) (l : List Ac) (N : Nat) (a : Option Addr) (c base pb nb : Nat) (w : World) (hN : l.length = N) (hNm : N ≤ 64) (ht : MayQ t m) (hx : ∀ x ∈ l, AcOk m now x) (hn : now ≤ 1099511627776) (hC : Caps w pb nb t m now)
    (hown : w.ownsRow base 102 3 (.slice a N c) N (acCells l)) (hbase : base ≤ w.heap.size) (hp : pb < base) (hnb : nb < base) :
    Calls Try.prog 70 #[.slice a N c, .func (.func 71) #[] #[.pointer (some ⟨pb, 0, none⟩), .pointer (some ⟨nb, 0, none⟩)]] w (DelPost base a (keepQ t m now l) w) := by
  have HI := Lib.hid (qidx_walk t m now l N a c w.heap.size pb nb w hN hNm ht hx hn hC (ownN_sl hown) (Nat.le_refl _))
  unfold IxqPost at HI
  have HNe := Lib.hid hN
  have HX := Lib.hid hx
  have HC := Lib.hid hC
  have HT := Lib.hid ht
  have HO := Lib.hid hown
  have hcap := ownN_cap hown
  have hNc := hcap.2
  clear hN hx hC ht hown hcap
  go_enter Try.func70, Try.ntmps70
  go_wp2_with fail
  refine HI.out.mono ?_
  rintro e w1 (⟨k, hk, HL, HF, rfl, g1⟩ | ⟨HL, rfl, g1⟩)
  · have own1 := own_keep HO.out g1
    have b1 : Below base w w1 := g1.mono hbase
    have HS := Lib.hid (delSt_start HNe.out hk HL.out HF.out)
    obtain ⟨g, rfl, hgb, hgl, _⟩ := ownN_at own1 (by omega)
    have hwk : IntKind.i64.wrap ((k : Int) + 1) = ((k + 1 : Nat) : Int) := by rw [IntWalk.i64_in _ (by omega)]; omega
    have hk1 : ((k : Int) == -1) = false := beq_eq_false_iff_ne.2 (by omega)
    clear HI
    go_wp2_with fail
    go_loopw [5, 6] (fun I J wr => ∃ (i j : Nat) (X : List Ac), j ≤ N ∧ i < j ∧ i < N ∧ I = .int .i64 i ∧ J = .int .i64 j ∧ Hid (DelSt t m now l X N i j) ∧ wr.ownsRow base 102 3 (.slice (some ⟨g, 0, none⟩) N c) N (acCells X) ∧ Below base w wr) (fun _ J _ => N - (intOf J).toNat)
    case atStart => exact ⟨k, k + 1, l, by omega, by omega, by omega, rfl, by go_num, HS, own1, b1⟩
    case round =>
      obtain ⟨i, j, X, hjN, hij, hiN, rfl, rfl, HD, own, hb⟩ := hrel
      by_cases hlt : j < N
      · have hlt2 : (j : Int) < (N : Int) := by omega
        have hi2 : (i : Int) < (N : Int) := by omega
        have hj0 : 0 ≤ (j : Int) := by omega
        have hi0 : 0 ≤ (i : Int) := by omega
        have hil : j < l.length := by rw [HNe.out]; exact hlt
        have hXl : j < X.length := by rw [HD.out.1]; exact hlt
        have hXi : i < X.length := by rw [HD.out.1]; exact hiN
        have hwi : IntKind.i64.wrap ((i : Int) + 1) = ((i + 1 : Nat) : Int) := by rw [IntWalk.i64_in _ (by omega)]; omega
        have hwj : IntKind.i64.wrap ((j : Int) + 1) = ((j + 1 : Nat) : Int) := by rw [IntWalk.i64_in _ (by omega)]; omega
        have hbz := hb.size
        obtain ⟨g', e, hgb', hgl', hfz, hcc⟩ := ownN_at own (by omega)
        injection e with e
        injection e with e1 _ _
        subst e1
        have hxe := HD.out.2.2 j (Nat.le_refl _) hlt
        have hok := HX.out _ (getD_mem l ac0 j hil)
        have hca := acCells_at X j hXl
        have r0 := hcc _ _ hca.1
        have r1 := hcc _ _ hca.2.1
        have r2 := hcc _ _ hca.2.2
        rw [hxe] at r0 r1 r2
        obtain ⟨x, hx⟩ : ∃ x, l.getD j ac0 = x := ⟨_, rfl⟩
        rw [hx] at r0 r1 r2 hok
        have hal := balloc wr (.cells #[.int .i64 x.o, .int .i64 x.l, .int .i64 x.s] 102)
        have V1 := Whole.new wr 102 #[.int .i64 x.o, .int .i64 x.l, .int .i64 x.s]
        have own1 := own_keep own hal
        have b1 := hb.trans (hal.mono (Nat.le_trans hbase hbz))
        have C1 := HC.out.keep b1 hp hnb
        have HXe := Lib.hid hx
        clear hxe hca hx hcc
        go_upto_region 8 with fail
        obtain ⟨w2, hw2⟩ : ∃ w2, w2 = wr.alloc (.cells #[.int .i64 x.o, .int .i64 x.l, .int .i64 x.s] 102) := ⟨_, rfl⟩
        rw [← hw2] at hal V1 own1 b1 C1 ⊢
        clear hw2 r0 r1 r2 own hb
        have hz2 := hal.size
        have v0 := V1.cell 0
        have v1 := V1.cell 1
        have v2 := V1.cell 2
        simp only [List.getElem?_toArray, List.getElem?_cons_zero, List.getElem?_cons_succ] at v0 v1 v2
        by_cases hf : FullQ t m now x
        · have HW := Lib.hid (qfull_walk t m now x pb nb w2 true (by unfold FullQ at hf; rw [hf]; exact beq_self_eq_true _) HT.out hok hn C1)
          have HD2 := Lib.hid (delSt_drop HD.out HNe.out hlt (by rw [HXe.out]; exact hf))
          clear hf hok C1
          go_wp2_with fail
          refine HW.out.mono ?_
          rintro e w3 ⟨rfl, g3⟩
          have own3 := own_keep own1 g3
          have b3 := b1.trans (g3.mono (by omega))
          clear own1 v0 v1 v2
          go_wp2_with fail
          go_roundw
          case rel => exact ⟨i, j + 1, X, by omega, by omega, hiN, rfl, by go_num, HD2, own3, b3⟩
          case measure => simp [intOf]; omega
        · have HW := Lib.hid (qfull_walk t m now x pb nb w2 false (beq_eq_false_iff_ne.2 hf) HT.out hok hn C1)
          have HD2 := Lib.hid (delSt_keep HD.out HNe.out hlt hij (by rw [HXe.out]; exact hf))
          clear hf hok C1
          go_wp2_with fail
          refine HW.out.mono ?_
          rintro e w3 ⟨rfl, g3⟩
          have own3 := own_keep own1 g3
          have V3 := V1.keep g3
          have b3 := b1.trans (g3.mono (by omega))
          have hz3 := g3.size
          clear own1 v0 v1 v2
          have v0 := V3.cell 0
          have v1 := V3.cell 1
          have v2 := V3.cell 2
          simp only [List.getElem?_toArray, List.getElem?_cons_zero, List.getElem?_cons_succ] at v0 v1 v2
          have hvl := V3.lt
          obtain ⟨g', e, _, hgl3, hfz3, hcc⟩ := ownN_at own3 (by omega)
          injection e with e
          injection e with e1 _ _
          subst e1
          have hca := acCells_at X i hXi
          have s0 := hcc _ _ hca.1
          have s1 := hcc _ _ hca.2.1
          have s2 := hcc _ _ hca.2.2
          have f0 := hfz3 (i * 3)
          have f1 := hfz3 (i * 3 + 1)
          have f2 := hfz3 (i * 3 + 2)
          have own5 := ac_store3 own3 hXi x
          have b5 := ((b3.setCell (p := ⟨g, i * 3, none⟩) hgb (.int .i64 x.o)).setCell (p := ⟨g, i * 3 + 1, none⟩) hgb (.int .i64 x.l)).setCell (p := ⟨g, i * 3 + 2, none⟩) hgb (.int .i64 x.s)
          clear hca hcc hfz3 own3 hfz
          go_wp2_with fail
          go_roundw
          case rel => exact ⟨i + 1, j + 1, X.set i x, by omega, by omega, by omega, by go_num, by go_num, by rw [← HXe.out]; exact HD2, own5, b5⟩
          case measure => simp [intOf]; omega
      · have hlt2 : ¬ (j : Int) < (N : Int) := by omega
        have HD3 := Lib.hid (show X.take i = keepQ t m now l from by rw [HD.out.2.1, List.take_of_length_le (by rw [HNe.out]; omega)])
        have hbz := hb.size
        have hic : i ≤ c := by omega
        have hin : i ≤ N := by omega
        have hi0 : 0 ≤ (i : Int) := by omega
        have hiN2 : (i : Int) ≤ (N : Int) := by omega
        obtain ⟨g', e, _, hgl', hfz, hcc⟩ := ownN_at own (by omega)
        injection e with e
        injection e with e1 _ _
        subst e1
        have hXL : (acCells X).length = N * 3 := by rw [acCells_length, HD.out.1]
        have hzv : ∀ w, (zeroValue 102).run Try.prog w = .ok (.agg #[.int .i64 0, .int .i64 0, .int .i64 0]) w := fun w => by kernel_rfl
        have hcl := fun ty c' => run_clear_recs (P := Try.prog) wr 61 102 ty _ 3 Try.underlying61 hzv (by rfl) (by omega) (fun v hv => by simp [Value.cells] at hv; rcases hv with rfl | rfl | rfl <;> rfl) g (i * 3) (N - i) c' (by omega) (fun j hj => by
          have hlt3 : i * 3 + j < (acCells X).length := by rw [hXL]; omega
          rw [hcc (i * 3 + j) _ (List.getElem?_eq_getElem hlt3)]; rfl) (fun j hj => hfz _)
        obtain ⟨vs, hvs⟩ := hcl 0 (c - i)
        clear hcl
        go_wp2_with (simp only [hvs])
        go_ret
        have hXi : (X.take i).length = i := by rw [List.length_take, HD.out.1]; omega
        have hsz := (Go.below_setCells (Nat.le_refl g) vs (i * 3) wr (Below.refl g wr)).size
        refine ⟨c, by rw [← HD3.out, hXi]; rfl, ?_, Go.below_setCells hgb vs (i * 3) wr hb⟩
        rw [← HD3.out, acCells_take]
        refine .inr ⟨g, 0, rfl, by omega, fun q u hu => ?_⟩
        rw [List.getElem?_take] at hu
        split at hu
        · next hq => rw [Nat.zero_add, cell_setCells_low g vs (i * 3) wr q hq]; exact hcc q u hu
        · cases hu
  · have own1 := own_keep HO.out g1
    have HD := Lib.hid (keepQ_all (t := t) (m := m) (now := now) (fun p hp => HL.out p (by rw [← HNe.out]; exact hp)))
    clear HI
    go_wp2_with fail
    go_ret
    exact ⟨c, by rw [HD.out, HNe.out]; rfl, by rw [HD.out]; exact ownN_sl own1, g1.mono hbase⟩
end Go.Proofs.Ytbhbilmpkgcmeaa
