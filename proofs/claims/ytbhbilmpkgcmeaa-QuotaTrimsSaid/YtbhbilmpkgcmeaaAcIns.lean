/- The walk of slices.Insert at []api.Account, at a row of the call's own. -/
import Derived.Test.YtbhbilmpkgcmeaaAcCl
import Derived.Shelf.Spec.SlicesInsertGrow
namespace Go.Proofs.Ytbhbilmpkgcmeaa
open Go.RowKit Go.Lib Vm
set_option linter.unusedVariables false

/-- The row with one element more. -/
def ins_ac (l : List Ac) (i : Nat) (x : Ac) : List Ac := l.take i ++ [x] ++ l.drop i
def IPost_ac (w : World) (l : List Ac) (i base N : Nat) (x : Ac) (e : Ending) (w' : World) : Prop :=
  ∃ a' c', e = .returned (.slice a' (N + 1) c') ∧ w'.ownsRow base 102 3 (.slice a' (N + 1) c') (N + 1) (acCells (ins_ac l i x)) ∧ Below base w w'

set_option maxRecDepth 100000 in
set_option maxHeartbeats 4000000 in
theorem ins_end_ac (l : List Ac) (N : Nat) (a : Option Addr) (c base : Nat) (x : Ac) (w : World) (vb : Nat) (hN : l.length = N) (hlen : N ≤ 2000)
    (hown : w.ownsRow base 102 3 (.slice a N c) N (acCells l)) (hv : w.heap[vb]? = some (.cells #[.int .i64 x.o, .int .i64 x.l, .int .i64 x.s] 102 (0, 0))) (hbase : base ≤ w.heap.size) :
    Calls Try.prog 66 #[.slice a N c, .int .i64 N, .slice (some ⟨vb, 0, none⟩) 1 1] w (IPost_ac w l N base N x) := by
  obtain ⟨i0, hi, hz0, hz1, hz2⟩ := info_parts info_ac
  have hE : acCells (ins_ac l N x) = acCells l ++ [.int .i64 x.o, .int .i64 x.l, .int .i64 x.s] := by
    unfold ins_ac
    rw [List.take_of_length_le (by omega), List.drop_of_length_le (by omega), List.append_nil, acCells_snoc]
  have HE := Lib.hid hE
  have HO := Lib.hid hown
  clear hE
  have hsh : (a = none ∧ N = 0 ∧ c = 0) ∨ ∃ g, a = some ⟨g, 0, none⟩ ∧ N ≤ c ∧ (c = N ∨ ¬ c = N) := by
    rcases hown.2 with ⟨h1, h2⟩ | ⟨g, cap, cur, h1, _, _, h3, _⟩
    · injection h1 with e1 e2 e3; exact .inl ⟨e1, e2, e3⟩
    · injection h1 with e1 e2 e3; exact .inr ⟨g, e1, by omega, by omega⟩
  clear hown
  rcases hsh with ⟨rfl, rfl, rfl⟩ | ⟨g, rfl, hNc, rfl | hcN⟩
  all_goals
    go_enter Try.func66, Try.ntmps66
    go_wp2_with (at_builtin; refine wpList_append_own _ rfl _ _ 61 rfl base 102 i0 (.agg #[.int .i64 0, .int .i64 0, .int .i64 0]) 3 24 Try.underlying61 hi hz0 hz1 hz2 rfl (by decide) _ _ _ rfl HO.out ⟨vb, 0, none⟩ 1 1 [.int .i64 x.o, .int .i64 x.l, .int .i64 x.s] rfl rfl ?c1 ?c2 ?c3 ?c4 ?c5 ?_)
    case c1 =>
      intro j u hj
      rw [add_at, Nat.zero_add, Lib.cell_of_heap hv]
      simpa using hj
    case c2 => exact ac_one x
    case c3 => unfold maxLen; omega
    case c4 => omega
    case c5 => omega
    intro v' w3 hown' hgrow _
    obtain ⟨a3, c3, rfl⟩ := ownN_shape hown'
    have hb3 := (Below.refl base w).grown hgrow hbase (fun g hg => (HO.out.lt g hg).1)
    go_wp2_with fail
    go_ret
    exact ⟨a3, c3, rfl, by rw [HE.out]; exact hown', hb3⟩

theorem ins_ac_cells (l : List Ac) (i : Nat) (x : Ac) : acCells (ins_ac l i x) = (acCells l).take (i * 3) ++ [.int .i64 x.o, .int .i64 x.l, .int .i64 x.s] ++ (acCells l).drop (i * 3) := by
  unfold ins_ac
  rw [acCells_append, acCells_append, acCells_take, acCells_drop]; rfl
/-- What lies in the row behind both copies. -/
theorem shift_ac {C L : List Value} {N i : Nat} {X : List Value} (hX : X.length = 3) (hC : (N + 1) * 3 ≤ C.length) (hL : C.take (N * 3) = L) (hi : i < N) :
    let R1 := C.take ((i + 1) * 3) ++ L.drop (i * 3) ++ C.drop ((i + 1) * 3 + (L.drop (i * 3)).length)
    let R2 := R1.take (i * 3) ++ X ++ R1.drop (i * 3 + 3)
    R1.length = C.length ∧ R2.length = C.length ∧ R2.take ((N + 1) * 3) = L.take (i * 3) ++ X ++ L.drop (i * 3) := by
  have hLl : L.length = N * 3 := by rw [← hL, List.length_take]; omega
  have hd : (L.drop (i * 3)).length = (N - i) * 3 := by rw [List.length_drop, hLl]; omega
  have h1 : (C.take ((i + 1) * 3)).length = (i + 1) * 3 := by rw [List.length_take]; omega
  have e1 : (i + 1) * 3 = i * 3 + 3 := by omega
  intro R1 R2
  have hR1 : R1.length = C.length := by
    simp only [R1, List.length_append, h1, hd, List.length_drop]; omega
  have hA : R1.take (i * 3) = L.take (i * 3) := by
    simp only [R1]
    rw [List.append_assoc, List.take_append_of_le_length (by omega), List.take_take, ← hL, List.take_take]
    congr 1; omega
  have hB : R1.drop (i * 3 + 3) = L.drop (i * 3) ++ C.drop ((i + 1) * 3 + (L.drop (i * 3)).length) := by
    simp only [R1]
    rw [List.append_assoc, ← e1]
    exact List.drop_left' h1
  have hA2 : (L.take (i * 3)).length = i * 3 := by rw [List.length_take]; omega
  refine ⟨hR1, ?_, ?_⟩
  · simp only [R2, List.length_append, hA, hB, hA2, hd, hX, List.length_drop]; omega
  · simp only [R2]
    rw [hA, hB, ← List.append_assoc]
    apply List.take_left'
    simp only [List.length_append, hA2, hd, hX]; omega

set_option maxRecDepth 100000 in
set_option maxHeartbeats 4000000 in
theorem ins_room_ac (l : List Ac) (N g c base i : Nat) (x : Ac) (w : World) (vb : Nat) (cur : Array Value) (hN : l.length = N) (hlen : N ≤ 2000) (hi : i < N) (hroom : N + 1 ≤ c) (hcm : c ≤ maxLen)
    (hg : w.heap[g]? = some (.cells cur 102 (0, 0))) (hgb : base ≤ g) (hcs : cur.size = c * 3) (htk : cur.toList.take (N * 3) = acCells l)
    (hv : w.heap[vb]? = some (.cells #[.int .i64 x.o, .int .i64 x.l, .int .i64 x.s] 102 (0, 0))) (hvb : vb ≠ g) (hbase : base ≤ w.heap.size) :
    Calls Try.prog 66 #[.slice (some ⟨g, 0, none⟩) N c, .int .i64 i, .slice (some ⟨vb, 0, none⟩) 1 1] w (IPost_ac w l i base N x) := by
  have hsa : w.shape? vb = some (102, 3) := by simp [World.shape?, hv]
  have hsb : w.shape? g = some (102, c * 3) := by simp [World.shape?, hg, hcs]
  have hfa : w.frozen? ⟨vb, 0, none⟩ = false := Lib.frozen_of_heap hv 0
  have hfe : w.frozen? ⟨vb, 3, none⟩ = false := Lib.frozen_of_heap hv 3
  have hz : ∀ w, (Go.sizeOf 102).run Try.prog w = .ok 3 w := fun w => by kernel_rfl
  have hov : ∀ lb cb o, (callFunc 85 #[.slice (some ⟨vb, 0, none⟩) 1 1, .slice (some ⟨g, o, none⟩) lb cb]).run Try.prog w = .ok (.value (.bool false)) w := fun lb cb o => by
    rw [run_callFunc_extern Try.func85 (by kernel_rfl) (by kernel_rfl) (by kernel_rfl) (e := Extern.SlicesOverlaps.overlaps #[61, 61] #[4]) (by kernel_rfl),
      Lib.run_overlaps_apart w 61 4 102 Try.underlying61 3 hz ⟨vb, 0, none⟩ ⟨g, o, none⟩ 1 1 lb cb hvb _ _ _ _ hsa hsb (by omega) hfa hfe]
    rfl
  have hz2 : ¬ ((i : Int) = (N : Int)) := by omega
  have hw0 : IntKind.i64.wrap ((N : Int) + 1) = (N : Int) + 1 := IntWalk.i64_in _ (by omega)
  have hw1 : IntKind.i64.wrap ((i : Int) + 1) = (i : Int) + 1 := IntWalk.i64_in _ (by omega)
  have hb0 : ¬ ((c : Int) < (N : Int) + 1) := by omega
  have hb1 : (0 : Int) ≤ (i : Int) + 1 := by omega
  have hb1' : (0 : Int) ≤ (N : Int) + 1 := by omega
  have hin : i ≤ N := by omega
  have htn : ((i : Int) + 1).toNat = i + 1 := by omega
  have htN : ((N : Int) + 1).toNat = N + 1 := by omega
  have hb2 : ¬ (c = i + 1) := by omega
  have hb3 : (i : Int) ≤ (N : Int) + 1 := by omega
  have hb4 : ¬ (c = i) := by omega
  have hc63 : c ≤ 9223372036854775807 := by unfold maxLen at hcm; omega
  have mixed : Try.prog.follows .mixedOrders = true := by kernel_rfl
  have hsz : (Try.prog.info? 102).map (·.size) = some 3 := by
    obtain ⟨i0, hi0, h0, h1, h2⟩ := info_parts info_ac
    rw [hi0]; simp [h1]
  have hCl : cur.toList.length = c * 3 := by simpa using hcs
  have hLl := acCells_length l
  obtain ⟨R1, hR1⟩ : ∃ R1 : List Value, R1 = cur.toList.take ((i + 1) * 3) ++ (acCells l).drop (i * 3) ++ cur.toList.drop ((i + 1) * 3 + ((acCells l).drop (i * 3)).length) := ⟨_, rfl⟩
  obtain ⟨R2, hR2⟩ : ∃ R2 : List Value, R2 = R1.take (i * 3) ++ [.int .i64 x.o, .int .i64 x.l, .int .i64 x.s] ++ R1.drop (i * 3 + 3) := ⟨_, rfl⟩
  have hsr := shift_ac (C := cur.toList) (L := acCells l) (N := N) (i := i) (X := [.int .i64 x.o, .int .i64 x.l, .int .i64 x.s]) rfl (by omega) htk hi
  simp only [← hR1, ← hR2] at hsr
  obtain ⟨s1, s2, s3⟩ := hsr
  have hdl : ((acCells l).drop (i * 3)).length = (N - i) * 3 := by rw [List.length_drop, hLl]; omega
  have hcp1 : ∀ ty dc sc, (Builtin.copy_ #[61, 61] ty #[.slice (some ⟨g, (i + 1) * 3, none⟩) (N - i) dc, .slice (some ⟨g, i * 3, none⟩) (N + 1 - i) sc]).run Try.prog w.drew = .ok (goInt ((N - i : Nat) : Int)) (w.drew.setRow g R1.toArray) := fun ty dc sc => by
    rw [hR1]
    exact run_copy_recs w.drew 61 61 ty 102 3 g ((i + 1) * 3) (N - i) dc (N - i) ⟨g, i * 3, none⟩ (N + 1 - i) sc cur 102 ((acCells l).drop (i * 3)) Try.underlying61 hsz hg (by simp only [Nat.min_def]; split <;> omega) hdl
      (fun j v hj => by
        rw [add_at, show w.drew.cell? ⟨g, i * 3 + j, none⟩ = w.cell? ⟨g, i * 3 + j, none⟩ from rfl, Lib.cell_of_heap hg, ← Array.getElem?_toList]
        rw [List.getElem?_drop, ← htk, List.getElem?_take] at hj
        split at hj
        · exact hj
        · cases hj)
      (by rw [hdl]; omega) (fun v hv => acCells_one l v (List.mem_of_mem_drop hv))
  obtain ⟨W1, hW1⟩ : ∃ W1, W1 = w.drew.setRow g R1.toArray := ⟨_, rfl⟩
  rw [← hW1] at hcp1
  have hg1 : W1.heap[g]? = some (.cells R1.toArray 102 (0, 0)) := by rw [hW1]; exact setRow_heap w.drew g cur _ _ _ hg
  have hv1 : W1.heap[vb]? = some (.cells #[.int .i64 x.o, .int .i64 x.l, .int .i64 x.s] 102 (0, 0)) := by rw [hW1, setRow_other _ _ _ _ hvb]; exact hv
  have hB1 : Below base w W1 := by rw [hW1]; exact below_setRow ((Below.refl base w).drew) hgb _
  have hcp2 : ∀ (W : World), (∀ k, W.heap[k]? = W1.heap[k]?) → ∀ ty dc, (Builtin.copy_ #[61, 61] ty #[.slice (some ⟨g, i * 3, none⟩) (N + 1 - i) dc, .slice (some ⟨vb, 0, none⟩) 1 1]).run Try.prog W = .ok (goInt 1) (W.setRow g R2.toArray) := fun W hWh ty dc => by
    have := run_copy_recs W 61 61 ty 102 3 g (i * 3) (N + 1 - i) dc 1 ⟨vb, 0, none⟩ 1 1 R1.toArray 102 [.int .i64 x.o, .int .i64 x.l, .int .i64 x.s] Try.underlying61 hsz (by rw [hWh]; exact hg1) (by simp only [Nat.min_def]; split <;> omega) rfl
      (fun j v hj => by
        rw [add_at, Nat.zero_add, Lib.cell_of_heap (by rw [hWh]; exact hv1 : W.heap[vb]? = _)]
        simpa using hj)
      (by simp; omega) (ac_one x)
    rw [hR2]
    simpa using this
  clear hR1 hR2 hdl hLl
  go_enter Try.func66, Try.ntmps66
  go_wp2_with (simp only [hov])
  go_region_law_o (refine step_copy_runI rfl _ _ 61 61 rfl _ _ (by simp [Act.eval, Act.put]) (by simp [Act.eval, Act.put]) (hcp1 _ _ _) ?_)
  go_wp2_with (at_builtin; refine wpList_copy_runI _ rfl _ _ 61 61 rfl _ _ rfl rfl (hcp2 _ (fun _ => rfl) _ _) ?_)
  go_ret
  subst hW1
  have hE := ins_ac_cells l i x
  refine ⟨some ⟨g, 0, none⟩, c, rfl, ⟨?_, .inr ⟨g, c, R2.toArray, rfl, hgb, ?_, hroom, hcm, ?_, ?_⟩⟩, below_setRow hB1 hgb _⟩
  · rw [acCells_length]; unfold ins_ac; simp; omega
  · exact setRow_heap _ g R1.toArray _ _ _ hg1
  · simp [s2, hCl]
  · rw [hE, ← s3]

theorem grow_ac {C L : List Value} {N i : Nat} {X : List Value} (hX : X.length = 3) (hC : (N + 1) * 3 ≤ C.length) (hL : L.length = N * 3) (hT : C.take (i * 3) = L.take (i * 3)) (hi : i < N) :
    let R1 := C.take (i * 3) ++ X ++ C.drop (i * 3 + 3)
    let R2 := R1.take ((i + 1) * 3) ++ L.drop (i * 3) ++ R1.drop ((i + 1) * 3 + (L.drop (i * 3)).length)
    R1.length = C.length ∧ R2.length = C.length ∧ R2.take ((N + 1) * 3) = L.take (i * 3) ++ X ++ L.drop (i * 3) := by
  have hd : (L.drop (i * 3)).length = (N - i) * 3 := by rw [List.length_drop, hL]; omega
  have h1 : (C.take (i * 3)).length = i * 3 := by rw [List.length_take]; omega
  intro R1 R2
  have hR1 : R1.length = C.length := by
    simp only [R1, List.length_append, h1, hX, List.length_drop]; omega
  have hA : R1.take ((i + 1) * 3) = L.take (i * 3) ++ X := by
    simp only [R1]
    rw [← hT]
    apply List.take_left'
    simp only [List.length_append, h1, hX]; omega
  have hA2 : (L.take (i * 3)).length = i * 3 := by rw [List.length_take]; omega
  refine ⟨hR1, ?_, ?_⟩
  · simp only [R2, List.length_append, hA, hA2, hd, hX, List.length_drop, hR1]; omega
  · simp only [R2]
    rw [hA]
    apply List.take_left'
    simp only [List.length_append, hA2, hd, hX]; omega

set_option maxRecDepth 100000 in
set_option maxHeartbeats 4000000 in
theorem ins_grow_ac (l : List Ac) (N g c base i : Nat) (x : Ac) (w : World) (vb : Nat) (cur : Array Value) (hN : l.length = N) (hlen : N ≤ 2000) (hi : i < N) (hNc : N ≤ c) (hroom : c < N + 1)
    (hg : w.heap[g]? = some (.cells cur 102 (0, 0))) (hgb : base ≤ g) (hcs : cur.size = c * 3) (htk : cur.toList.take (N * 3) = acCells l)
    (hv : w.heap[vb]? = some (.cells #[.int .i64 x.o, .int .i64 x.l, .int .i64 x.s] 102 (0, 0))) (hbase : base ≤ w.heap.size) :
    Calls Try.prog 66 #[.slice (some ⟨g, 0, none⟩) N c, .int .i64 i, .slice (some ⟨vb, 0, none⟩) 1 1] w (IPost_ac w l i base N x) := by
  obtain ⟨i0, hi0, hz0, hzs, hzb⟩ := info_parts info_ac
  have hsz : (Try.prog.info? 102).map (·.size) = some 3 := by rw [hi0]; simp [hzs]
  have hCl : cur.toList.length = c * 3 := by simpa using hcs
  have hLl := acCells_length l
  have hgw : g < w.heap.size := by
    rcases Nat.lt_or_ge g w.heap.size with h' | h'
    · exact h'
    · rw [Array.getElem?_eq_none h'] at hg; cases hg
  have hvw : vb < w.heap.size := by
    rcases Nat.lt_or_ge vb w.heap.size with h' | h'
    · exact h'
    · rw [Array.getElem?_eq_none h'] at hv; cases hv
  have hcell : ∀ j v, (acCells l)[j]? = some v → w.cell? ⟨g, j, none⟩ = some v := fun j v hj => by
    rw [Lib.cell_of_heap hg, ← Array.getElem?_toList]
    rw [← htk, List.getElem?_take] at hj
    split at hj
    · exact hj
    · cases hj
  have hold : (Builtin.firstCells i0.size i (.slice (some ⟨g, 0, none⟩) i c)).run Try.prog w.drew = .ok ((acCells l).take (i * 3)).toArray w.drew := by
    rw [hzs]
    exact run_firstCells_some w.drew 3 i ⟨g, 0, none⟩ i c ((acCells l).take (i * 3)) (by rw [List.length_take, hLl]; omega) (fun j v hj => by
      rw [add_at, Nat.zero_add]
      rw [List.getElem?_take] at hj
      split at hj
      · exact hcell j v hj
      · cases hj)
  have mixed : Try.prog.follows .mixedOrders = true := by kernel_rfl
  have hz2 : ¬ ((i : Int) = (N : Int)) := by omega
  have hw0 : IntKind.i64.wrap ((N : Int) + 1) = (N : Int) + 1 := IntWalk.i64_in _ (by omega)
  have hw1 : IntKind.i64.wrap ((i : Int) + 1) = (i : Int) + 1 := IntWalk.i64_in _ (by omega)
  have hw2 : IntKind.i64.wrap ((N : Int) + 1 - (i : Int)) = (N : Int) + 1 - (i : Int) := IntWalk.i64_in _ (by omega)
  have hb0 : (c : Int) < (N : Int) + 1 := by omega
  have hb1 : (0 : Int) ≤ (i : Int) + 1 := by omega
  have hin : i ≤ N := by omega
  have htn : ((i : Int) + 1).toNat = i + 1 := by omega
  have hb4 : ¬ (c = i) := by omega
  have hkk : (N : Int) + 1 - (i : Int) = ((N + 1 - i : Nat) : Int) := by omega
  obtain ⟨G, hG⟩ : ∃ G, G = grownCap w (N + 1) c 102 := ⟨_, rfl⟩
  have hGn : N + 1 ≤ G := by rw [hG]; exact grownCap_ge w _ _ _
  have hGm : G ≤ maxLen := by rw [hG]; exact grownCap_le_maxLen w (N + 1) c _ (by unfold maxLen; omega)
  obtain ⟨ROW, hROW⟩ : ∃ ROW : Array Value, ROW = ((acCells l).take (i * 3)).toArray ++ Builtin.zeroCells (Value.agg #[.int .i64 0, .int .i64 0, .int .i64 0]).cells (N + 1 - i) ++ Builtin.zeroCells (Value.agg #[.int .i64 0, .int .i64 0, .int .i64 0]).cells (G - (N + 1)) := ⟨_, rfl⟩
  have hrz : ∀ ty, (Builtin.append_ #[61, 3] ty #[.slice (some ⟨g, 0, none⟩) i c, .int .i64 ((N : Int) + 1 - (i : Int))]).run Try.prog w =
      .ok (.slice (some ⟨w.heap.size, 0, none⟩) (N + 1) G) (w.drew.alloc (.cells ROW 102)) := fun ty => by
    have h := Lib.run_append_grow_zeros w 61 3 ty 102 i0 _ .i64 .i64 Try.underlying61 Try.underlying3 hi0 hz0 (some ⟨g, 0, none⟩) i c ((acCells l).take (i * 3)) hold (N + 1 - i) (by omega) (by omega) (by omega) (by omega) (by rw [hzb]; omega) (by rw [hzb, show i + (N + 1 - i) = N + 1 from by omega]; exact growslice_fits hroom (by omega))
    rw [show i + (N + 1 - i) = N + 1 from by omega, ← hG, ← hROW] at h
    rw [hkk]
    exact h
  have hRs : ROW.size = G * 3 := by
    rw [hROW]; simp [Builtin.zeroCells, Value.cells, hLl]; omega
  have hRt : ROW.toList.take (i * 3) = (acCells l).take (i * 3) := by
    rw [hROW]; simp [List.take_append, hLl, List.take_take]; omega
  have hRl : ROW.toList.length = G * 3 := by simpa using hRs
  obtain ⟨R1, hR1⟩ : ∃ R1 : List Value, R1 = ROW.toList.take (i * 3) ++ [.int .i64 x.o, .int .i64 x.l, .int .i64 x.s] ++ ROW.toList.drop (i * 3 + 3) := ⟨_, rfl⟩
  obtain ⟨R2, hR2⟩ : ∃ R2 : List Value, R2 = R1.take ((i + 1) * 3) ++ (acCells l).drop (i * 3) ++ R1.drop ((i + 1) * 3 + ((acCells l).drop (i * 3)).length) := ⟨_, rfl⟩
  have hsr := grow_ac (C := ROW.toList) (L := acCells l) (N := N) (i := i) (X := [.int .i64 x.o, .int .i64 x.l, .int .i64 x.s]) rfl (by omega) (by omega) hRt hi
  simp only [← hR1, ← hR2] at hsr
  obtain ⟨s1, s2, s3⟩ := hsr
  have hdl : ((acCells l).drop (i * 3)).length = (N - i) * 3 := by rw [List.length_drop, hLl]; omega
  have hcpA : ∀ (W : World), W.heap[w.heap.size]? = some (.cells ROW 102 (0, 0)) → W.heap[vb]? = w.heap[vb]? → ∀ ty dc, (Builtin.copy_ #[61, 61] ty #[.slice (some ⟨w.heap.size, i * 3, none⟩) (N + 1 - i) dc, .slice (some ⟨vb, 0, none⟩) 1 1]).run Try.prog W = .ok (goInt 1) (W.setRow w.heap.size R1.toArray) := fun W hWr hWv ty dc => by
    have := run_copy_recs W 61 61 ty 102 3 w.heap.size (i * 3) (N + 1 - i) dc 1 ⟨vb, 0, none⟩ 1 1 ROW 102 [.int .i64 x.o, .int .i64 x.l, .int .i64 x.s] Try.underlying61 hsz hWr (by simp only [Nat.min_def]; split <;> omega) rfl
      (fun j v hj => by
        rw [add_at, Nat.zero_add, Lib.cell_of_heap (hWv.trans hv)]
        simpa using hj)
      (by simp; omega) (ac_one x)
    rw [hR1]
    simpa using this
  have hcpB : ∀ (W : World), W.heap[w.heap.size]? = some (.cells R1.toArray 102 (0, 0)) → W.heap[g]? = w.heap[g]? → ∀ ty dc sc, (Builtin.copy_ #[61, 61] ty #[.slice (some ⟨w.heap.size, (i + 1) * 3, none⟩) (N - i) dc, .slice (some ⟨g, i * 3, none⟩) (N - i) sc]).run Try.prog W = .ok (goInt ((N - i : Nat) : Int)) (W.setRow w.heap.size R2.toArray) := fun W hWr hWg ty dc sc => by
    have := run_copy_recs W 61 61 ty 102 3 w.heap.size ((i + 1) * 3) (N - i) dc (N - i) ⟨g, i * 3, none⟩ (N - i) sc R1.toArray 102 ((acCells l).drop (i * 3)) Try.underlying61 hsz hWr (by simp) hdl
      (fun j v hj => by
        rw [add_at]
        have h1 : W.cell? ⟨g, i * 3 + j, none⟩ = w.cell? ⟨g, i * 3 + j, none⟩ := World.cell?_of_block (a := ⟨g, i * 3 + j, none⟩) hWg
        rw [h1]
        rw [List.getElem?_drop] at hj
        exact hcell _ _ hj)
      (by rw [hdl]; simp [s1, hRl]; omega) (fun v hv => acCells_one l v (List.mem_of_mem_drop hv))
    rw [hR2]
    simpa using this
  have hA1 : ((w.alloc (.cells ROW 102)).drew).heap[w.heap.size]? = some (.cells ROW 102 (0, 0)) := heap_alloc_new w _
  have hA2 : ((w.alloc (.cells ROW 102)).drew).heap[vb]? = w.heap[vb]? := (balloc w (.cells ROW 102)).block vb hvw
  have hA3 : ((w.alloc (.cells ROW 102)).drew).heap[g]? = w.heap[g]? := (balloc w (.cells ROW 102)).block g hgw
  have hB1 : ((w.alloc (.cells ROW 102)).drew.setRow w.heap.size R1.toArray).drew.heap[w.heap.size]? = some (.cells R1.toArray 102 (0, 0)) := setRow_heap _ w.heap.size ROW _ _ _ hA1
  have hB2 : ((w.alloc (.cells ROW 102)).drew.setRow w.heap.size R1.toArray).drew.heap[g]? = w.heap[g]? := (setRow_other _ w.heap.size g _ (by omega)).trans hA3
  have hGi : ¬ (G = i) := by omega
  have hGi1 : ¬ (G = i + 1) := by omega
  have hb3 : (i : Int) ≤ (N : Int) := by omega
  have hb5 : (i : Int) ≤ (N : Int) + 1 := by omega
  have HA := Lib.hid (hcpA _ hA1 hA2)
  have HB := Lib.hid (hcpB _ hB1 hB2)
  have HB1 := Lib.hid hB1
  clear hkk hold hROW hG hRt hRs hR1 hR2 hcell hdl hLl hCl hcpA hcpB hA1 hA2 hA3 hB1 hB2
  go_enter Try.func66, Try.ntmps66
  go_wp2_with (at_builtin; refine Lib.wpList_append_run _ rfl _ _ _ _ rfl _ _ rfl rfl _ _ (hrz _) ?_)
  rw [HA.out]
  simp only [Result.andThen]
  rw [Oper.upon_value]
  go_wp2
  go_region_law_o (refine step_copy_runI rfl _ _ 61 61 rfl (.slice (some ⟨w.heap.size, (i + 1) * 3, none⟩) (N - i) (G - (i + 1))) (.slice (some ⟨g, i * 3, none⟩) (N - i) (c - i)) (by simp [Act.eval, Act.put]) (by simp [Act.eval, Act.put]) (HB.out 3 (G - (i + 1)) (c - i)) ?_)
  go_wp2
  go_ret
  have hE := ins_ac_cells l i x
  refine ⟨some ⟨w.heap.size, 0, none⟩, G, rfl, ⟨?_, .inr ⟨w.heap.size, G, R2.toArray, rfl, hbase, ?_, hGn, hGm, ?_, ?_⟩⟩, ?_⟩
  · rw [acCells_length]; unfold ins_ac; simp; omega
  · exact setRow_heap _ w.heap.size R1.toArray _ _ _ HB1.out
  · simp [s2, hRl]
  · rw [hE, ← s3]
  · exact below_setRow (below_setRow (((Below.refl base w).alloc hbase _).drew) hbase _).drew hbase _

theorem insert_ac (l : List Ac) (N : Nat) (a : Option Addr) (c base i : Nat) (x : Ac) (w : World) (vb : Nat) (hN : l.length = N) (hlen : N ≤ 2000) (hi : i ≤ N)
    (hown : w.ownsRow base 102 3 (.slice a N c) N (acCells l)) (hv : w.heap[vb]? = some (.cells #[.int .i64 x.o, .int .i64 x.l, .int .i64 x.s] 102 (0, 0)))
    (hvb : (Value.slice a N c).ownBlock ≠ some vb) (hbase : base ≤ w.heap.size) :
    Calls Try.prog 66 #[.slice a N c, .int .i64 i, .slice (some ⟨vb, 0, none⟩) 1 1] w (IPost_ac w l i base N x) := by
  rcases Nat.lt_or_ge i N with h | h
  · rcases hown.2 with ⟨_, h2⟩ | ⟨g, cap, cur, h1, hgb, hg, hNc, hcm, hcs, htk⟩
    · omega
    · injection h1 with e1 e2 e3
      subst e1 e3
      by_cases hr : N + 1 ≤ c
      · exact ins_room_ac l N g c base i x w vb cur hN hlen h hr hcm hg hgb hcs htk hv (fun e => hvb (by rw [e]; rfl)) hbase
      · exact ins_grow_ac l N g c base i x w vb cur hN hlen h hNc (by omega) hg hgb hcs htk hv hbase
  · obtain rfl : i = N := by omega
    exact ins_end_ac l i a c base x w vb hN hlen hown hv hbase
end Go.Proofs.Ytbhbilmpkgcmeaa
