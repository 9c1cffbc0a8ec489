/- strings.Builder's WriteString once more: what else lies there stays, too. -/
import Derived.Test.YtbljhmcenjmjjaaBuilder
namespace Go.Proofs.Ytbljhmcenjmjjaa
open Go.RowKit Vm
set_option linter.unusedVariables false

theorem check_walk2 (B b : Nat) (l : List UInt8) (w : World) (h : Bd B b l w) :
    Calls Try.prog 50 #[.pointer (some ⟨b, 0, none⟩)] w fun e w' => e = .returned (.tuple #[]) ∧ (Lib.BuilderAt 68 5 B b (.pointer (some ⟨b, 0, none⟩)) (Lib.byteCells l) w' ∧ Below B w w' ∧ (∀ k, k ≠ b → w'.heap[k]? = w.heap[k]?) ∧ w'.cell? ⟨b, 1, none⟩ = w.cell? ⟨b, 1, none⟩) := by
  rcases h with h | h
  · refine (check_fresh b w h.cell0 h.shape h.frozen0).mono ?_
    rintro e w' ⟨rfl, rfl⟩
    refine ⟨rfl, h.used _, (Below.refl B w).setCell (p := ⟨b, 0, none⟩) h.1 _, fun k hk => Below.heap_setCell w ⟨b, 0, none⟩ _ k hk, ?_⟩
    obtain ⟨_, v, hb, _⟩ := h
    rw [Lib.cell_of_heap (heap_setCell_same w b 0 _ _ _ hb), Lib.cell_of_heap hb]
    rfl
  · refine (check_used b w h.cell0).mono ?_
    rintro e w' ⟨rfl, rfl⟩
    exact ⟨rfl, h, Below.refl B _, fun _ _ => rfl, rfl⟩

set_option maxRecDepth 100000 in
set_option maxHeartbeats 2000000 in
/-- WriteString: what is written stands behind what was there; block k stays. -/
theorem write_walk2 (B b k : Nat) (l : List UInt8) (s : ByteArray) (w : World) (h : Bd B b l w) (hlen : l.length + s.size ≤ 140737488355328) (hBw : B ≤ w.heap.size) (hkb : k ≠ b) (hkw : k < w.heap.size) (hkv : ∀ v, w.cell? ⟨b, 1, none⟩ = some v → v.ownBlock ≠ some k) :
    Calls Try.prog 39 #[.pointer (some ⟨b, 0, none⟩), .string s] w fun e w' => e = .returned (.tuple #[.int .i64 s.size, .nilIface]) ∧ (Bd B b (l ++ s.data.toList) w' ∧ Below B w w' ∧ w'.heap[k]? = w.heap[k]? ∧ w.heap.size ≤ w'.heap.size) := by
  obtain ⟨i0, hi, hz0, hz1, hz2⟩ := info_parts infoByte
  have hbl := bd_length l
  go_enter Try.func39, Try.ntmps39
  go_wp2_with fail
  refine (check_walk2 B b l _ h).mono ?_
  rintro e w1 ⟨rfl, h1, hb1, hk1, hc1⟩
  obtain ⟨hB, v, hbk, hown, hne⟩ := h1
  have c1 : w1.cell? ⟨b, 1, none⟩ = some v := by rw [Lib.cell_of_heap hbk]; rfl
  have HKV := Lib.hid (hkv v (by rw [← hc1]; exact c1))
  have HK1 := Lib.hid (hk1 k hkb)
  have HZ1 := Lib.hid hb1.size
  have HL := Lib.hid hbl
  clear hbl hk1 hc1 hkv
  go_wp2_with (at_builtin; refine Lib.wpList_append_own_string _ rfl _ _ 66 9 rfl B 5 i0 Try.underlying66 Try.underlying9 hi hz0 hz1 hz2 _ _ _ rfl hown s rfl ?c3 ?c4 ?c5 ?_)
  case c3 => rw [HL.out]; unfold maxLen; omega
  case c4 => rw [HL.out]; omega
  case c5 => have := hb1.size; omega
  intro v' w2 hown' hgrow _
  have hlt : b < w1.heap.size := by
    rcases Nat.lt_or_ge b w1.heap.size with h' | h'
    · exact h'
    · simp [Array.getElem?_eq_none h'] at hbk
  have hb2 : w2.heap[b]? = some (.cells #[.pointer (some ⟨b, 0, none⟩), v] 68 (0, 0)) := by
    rw [hgrow.block b hlt (fun e => hne e.symm)]
    exact hbk
  have HK2 := Lib.hid ((hgrow.block k (Nat.lt_of_lt_of_le hkw HZ1.out) (fun e => HKV.out e.symm)).trans HK1.out)
  have HZ2 := Lib.hid (Nat.le_trans HZ1.out hgrow.size)
  have d1 : w2.cell? ⟨b, 1, none⟩ = some v := by rw [Lib.cell_of_heap hb2]; rfl
  have f1 : w2.frozen? ⟨b, 1, none⟩ = false := Lib.frozen_of_heap hb2 1
  obtain ⟨ao, n', cap, rfl⟩ : ∃ ao n' cap, v' = .slice ao n' cap := by
    rcases hown'.2 with ⟨hv, _⟩ | ⟨g, cap, cur, hv, _⟩
    · exact ⟨_, _, _, hv⟩
    · exact ⟨_, _, _, hv⟩
  have hbel : Below B w w2 := hb1.grown hgrow (by have := hb1.size; omega) (fun k hk => (hown.lt k hk).1)
  have hcells : Lib.byteCells l ++ Lib.strCells s = Lib.byteCells (l ++ s.data.toList) := by simp [Lib.byteCells, Lib.strCells]
  have hown2 : w2.ownsRow B 5 1 (.slice ao n' cap) (Lib.byteCells (l ++ s.data.toList)).length (Lib.byteCells (l ++ s.data.toList)) := by
    rw [← hcells, List.length_append, Lib.strCells_length]; exact hown'
  have HO := Lib.hid hown2
  clear hown' hown2 hgrow hown hcells
  go_wp2
  go_ret2
  refine ⟨rfl, .inr (Lib.BuilderAt.put hB hb2 HO.out (by decide)), hbel.setCell (p := ⟨b, 1, none⟩) hB _, ?_, ?_⟩
  · rw [Below.heap_setCell w2 ⟨b, 1, none⟩ _ k hkb]; exact HK2.out
  · rw [World.size_setCell]; exact HZ2.out
/-- The builder's own row lies ahead of what came later. -/
theorem Bd.row {B b k : Nat} {l : List UInt8} {w0 w : World} (h : Bd B b l w0) (hb : Below w0.heap.size w0 w) (hk : w0.heap.size ≤ k) : ∀ v, w.cell? ⟨b, 1, none⟩ = some v → v.ownBlock ≠ some k := by
  have key : ∀ p, Lib.BuilderAt 68 5 B b p (Lib.byteCells l) w0 → ∀ v, w.cell? ⟨b, 1, none⟩ = some v → v.ownBlock ≠ some k := fun p hp v hv he => by
    have hlt := hp.lt
    obtain ⟨_, u, hbk, hown, _⟩ := hp
    have h0 : w0.cell? ⟨b, 1, none⟩ = some u := by rw [Lib.cell_of_heap hbk]; rfl
    have h1 := (hb.cell (p := ⟨b, 1, none⟩) hlt).trans h0
    rw [h1] at hv
    injection hv with hv
    subst hv
    have := (hown.lt k he).2
    omega
  rcases h with h | h
  · exact key _ h
  · exact key _ h
theorem Bd.lt {B b : Nat} {l : List UInt8} {w : World} (h : Bd B b l w) : b < w.heap.size := by
  rcases h with h | h
  · exact Lib.BuilderAt.lt h
  · exact Lib.BuilderAt.lt h
end Go.Proofs.Ytbljhmcenjmjjaa
