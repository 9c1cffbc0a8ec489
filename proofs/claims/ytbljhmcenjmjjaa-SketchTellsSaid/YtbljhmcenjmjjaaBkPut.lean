/- The walk of sketch.count: so many numbers more in a bucket, at a row of the call's own. -/
import Derived.Test.YtbljhmcenjmjjaaBkIns
namespace Go.Proofs.Ytbljhmcenjmjjaa
open Go.RowKit Vm Sk
set_option linter.unusedVariables false

/-- So many numbers more in a bucket. -/
def putB : List Bk → Int → Int → List Bk
  | [], b, n => [⟨b, n⟩]
  | x :: t, b, n => if x.b < b then x :: putB t b n else if x.b = b then ⟨b, n + x.n⟩ :: t else ⟨b, n⟩ :: x :: t
theorem at_cons {x : Bk} {t : List Bk} {b : Int} {i : Nat} (h : At (x :: t) b (i + 1)) : x.b < b ∧ At t b i := by
  obtain ⟨h1, h2, h3⟩ := h
  refine ⟨h2 0 (by omega), by simpa using h1, fun p hp => h2 (p + 1) (by omega), fun p hp hl => h3 (p + 1) (by omega) (by simpa using hl)⟩
theorem putB_new {b n : Int} : ∀ {l : List Bk} {i : Nat}, At l b i → ¬ (i < l.length ∧ (l.getD i bk0).b = b) → putB l b n = l.take i ++ [⟨b, n⟩] ++ l.drop i := by
  intro l
  induction l with
  | nil => intro i h _; obtain rfl : i = 0 := by have := h.1; simp at this; exact this
           rfl
  | cons x t ih =>
    intro i h hn
    cases i with
    | zero =>
      have h3 := h.2.2 0 (by omega) (by simp)
      have hx : ¬ x.b = b := fun e => hn ⟨by simp, e⟩
      have hx2 : ¬ x.b < b := by simp only [List.getD_cons_zero] at h3; omega
      simp [putB, hx, hx2]
    | succ i =>
      obtain ⟨h1, h2⟩ := at_cons h
      rw [putB, if_pos h1, ih h2 (fun hh => hn ⟨by simpa using hh.1, hh.2⟩)]
      simp
theorem putB_old {b n : Int} : ∀ {l : List Bk} {i : Nat}, At l b i → i < l.length → (l.getD i bk0).b = b → putB l b n = l.take i ++ [⟨b, n + (l.getD i bk0).n⟩] ++ l.drop (i + 1) := by
  intro l
  induction l with
  | nil => intro i _ h; cases h
  | cons x t ih =>
    intro i h hl hb
    cases i with
    | zero =>
      simp only [List.getD_cons_zero] at hb
      simp [putB, hb]
    | succ i =>
      obtain ⟨h1, h2⟩ := at_cons h
      rw [putB, if_pos h1, ih h2 (by simpa using hl) hb]
      simp
theorem own_store {w : World} {base n g c j : Nat} {e : TypeId} {u : Value} {xs : List Value} (h : w.ownsRow base e 2 (.slice (some ⟨g, 0, none⟩) n c) n xs) (hj : j < xs.length) : (w.setCell ⟨g, j, none⟩ u).ownsRow base e 2 (.slice (some ⟨g, 0, none⟩) n c) n (xs.set j u) := by
  obtain ⟨hl, h0 | ⟨g', cap, cur, hv, hg, hh, h1, h2, h3, h4⟩⟩ := h
  · cases h0.1
  · injection hv with e1 e2 e3
    injection e1 with e1
    injection e1 with e1 _ _
    subst e1 e3
    refine ⟨by rw [List.length_set]; exact hl, .inr ⟨g, c, cur.setIfInBounds j u, rfl, hg, heap_setCell_same w g j cur e u hh, h1, h2, by simpa using h3, ?_⟩⟩
    rw [← h4, Array.toList_setIfInBounds, List.take_set]
theorem own_at {w : World} {base n c : Nat} {a : Option Addr} {e : TypeId} {xs : List Value} (h : w.ownsRow base e 2 (.slice a n c) n xs) (hn : 0 < n) : ∃ g, a = some ⟨g, 0, none⟩ ∧ base ≤ g ∧ g < w.heap.size ∧ (∀ j, w.frozen? ⟨g, j, none⟩ = false) ∧ ∀ j u, xs[j]? = some u → w.cell? ⟨g, j, none⟩ = some u := by
  rcases h.2 with ⟨_, h2⟩ | ⟨g, cap, cur, hv, hg, hh, h1, h2, h3, h4⟩
  · omega
  · injection hv with e1 e2 e3
    subst e1
    have hlt := h.lt g rfl
    refine ⟨g, rfl, hg, hlt.2, fun j => Lib.frozen_of_heap hh j, fun j u hu => ?_⟩
    have := h.cells (g := g) rfl j u hu
    rwa [add_at, Nat.zero_add] at this
theorem bkCells_set (l : List Bk) (i : Nat) (x : Bk) (hi : i < l.length) (hb : x.b = (l.getD i bk0).b) : (bkCells l).set (i * 2 + 1) (.int .i64 x.n) = bkCells (l.take i ++ [x] ++ l.drop (i + 1)) := by
  induction l generalizing i with
  | nil => cases hi
  | cons y t ih =>
    cases i with
    | zero =>
      simp only [List.getD_cons_zero] at hb
      show (Value.int .i64 y.b :: Value.int .i64 y.n :: bkCells t).set 1 _ = _
      simp [bkCells, hb]
    | succ i =>
      have := ih i (by simpa using hi) (by simpa using hb)
      rw [show (i + 1) * 2 + 1 = i * 2 + 1 + 1 + 1 from by omega]
      show Value.int .i64 y.b :: Value.int .i64 y.n :: (bkCells t).set (i * 2 + 1) _ = _
      rw [this]; rfl

theorem insB_getD (l : List Bk) (i : Nat) (b : Int) (hi : i ≤ l.length) : (insB l i b).getD i bk0 = ⟨b, 0⟩ := by
  unfold insB
  have h1 : (l.take i).length = i := by rw [List.length_take]; omega
  rw [List.append_assoc, List.getD_eq_getElem?_getD, List.getElem?_append_right (by omega), h1]
  simp
theorem insB_take (l : List Bk) (i : Nat) (b : Int) (hi : i ≤ l.length) : (insB l i b).take i = l.take i := by
  unfold insB
  rw [List.append_assoc]
  exact List.take_left' (by rw [List.length_take]; omega)
theorem insB_drop (l : List Bk) (i : Nat) (b : Int) (hi : i ≤ l.length) : (insB l i b).drop (i + 1) = l.drop i := by
  unfold insB
  exact List.drop_left' (by simp; omega)
theorem insB_length (l : List Bk) (i : Nat) (b : Int) (hi : i ≤ l.length) : (insB l i b).length = l.length + 1 := by unfold insB; simp; omega

set_option maxRecDepth 100000 in
set_option maxHeartbeats 4000000 in
theorem count_walk (l : List Bk) (N : Nat) (a : Option Addr) (c base : Nat) (b n : Int) (w : World) (hN : l.length = N) (hlen : N < 2000) (hp : Pre l l.length) (hb : -960 ≤ b ∧ b < 960) (hn : 1 ≤ n ∧ n ≤ 1099511627776)
    (hown : w.ownsRow base 63 2 (.slice a N c) N (bkCells l)) (hbase : base ≤ w.heap.size) :
    Calls Try.prog 37 #[.slice a N c, .int .i64 b, .int .i64 n] w fun e w' => ∃ a' c', e = .returned (.slice a' (putB l b n).length c') ∧ w'.ownsRow base 63 2 (.slice a' (putB l b n).length c') (putB l b n).length (bkCells (putB l b n)) ∧ Below base w w' := by
  have HB := Lib.hid (fun w h hB => bsearch_walk l N a c w.heap.size b w hN (by omega) hp hb h hB)
  have HO := Lib.hid hown
  have HP := Lib.hid hp
  go_enter Try.func37, Try.ntmps37
  go_wp2_with fail
  refine (HB.out _ (own_sln hown) (Nat.le_refl _)).mono ?_
  rintro e w1 ⟨i, f, hAt, hf, rfl, g1⟩
  have hown1 := own_keep hown g1
  have hb1 : base ≤ w1.heap.size := Nat.le_trans hbase g1.size
  have hi := hAt.1
  clear hown HB
  cases f with
  | false =>
    have hno : ¬ (i < N ∧ (l.getD i bk0).b = b) := fun h => by have := hf.2 h; cases this
    clear hf
    have hpn := Lib.hid (putB_new (n := n) hAt (by rw [hN]; exact hno))
    have hal := below_alloc w1 (.cells #[.int .i64 b, .int .i64 0] 63)
    have hv := heap_alloc_new w1 (.cells #[.int .i64 b, .int .i64 0] 63)
    have hne : (Value.slice a N c).ownBlock ≠ some w1.heap.size := fun h => by have := (hown1.lt _ h).2; omega
    have HI := Lib.hid (insert_walk l N a c base i b _ w1.heap.size hN (by omega) (by omega) (own_keep hown1 hal) hv hne (Nat.le_trans hb1 hal.size))
    have g2 := g1.trans (hal.mono g1.size)
    clear hno hne hv hal hown1
    go_wp2_with fail
    refine HI.out.mono ?_
    rintro e w2 ⟨a2, c2, rfl, hown2, g3⟩
    obtain ⟨g, rfl, hgb, hgw, hfz, hcell⟩ := own_at hown2 (by omega)
    have hil : i < (insB l i b).length := by rw [insB_length l i b hi]; omega
    have hc1 := hcell _ _ (bkCells_at (insB l i b) i hil).2
    rw [insB_getD l i b hi] at hc1
    simp only at hc1
    have hf1 := hfz (i * 2 + 1)
    have hset := bkCells_set (insB l i b) i ⟨b, n⟩ hil (by rw [insB_getD l i b hi])
    rw [insB_take l i b hi, insB_drop l i b hi, ← hpn.out] at hset
    simp only at hset
    have hlp : (putB l b n).length = N + 1 := by rw [hpn.out]; simp; omega
    have hO := own_store (u := .int .i64 n) hown2 (j := i * 2 + 1) (by rw [bkCells_length]; omega)
    rw [hset, ← hlp] at hO
    have HOs := Lib.hid hO
    have hbf := (g2.mono hbase).trans (g3.mono (Nat.le_refl _))
    have HBf := Lib.hid (hbf.setCell (p := ⟨g, i * 2 + 1, none⟩) hgb (.int .i64 n))
    have hw0 : IntKind.i64.wrap n = n := IntWalk.i64_in _ (by omega)
    have hiN : i < N + 1 := by omega
    have HL := Lib.hid hlp
    clear hcell hfz hset hO hbf HI hpn hlp
    go_wp2_with fail
    go_ret
    exact ⟨some ⟨g, 0, none⟩, c2, by rw [HL.out]; rfl, HOs.out, HBf.out⟩
  | true =>
    obtain ⟨hiN, hbe⟩ := hf.1 rfl
    clear hf
    have hil : i < l.length := by omega
    obtain ⟨g, rfl, hgb, hgw, hfz, hcell⟩ := own_at hown1 (by omega)
    have hc1 := hcell _ _ (bkCells_at l i hil).2
    have hf1 := hfz (i * 2 + 1)
    have hok := HP.out i hil
    have hn1 := hok.2.2.1
    have hn2 := hok.2.2.2.1
    have hpn := putB_old (n := n) hAt hil hbe
    have hset := bkCells_set l i ⟨b, n + (l.getD i bk0).n⟩ hil hbe.symm
    rw [← hpn] at hset
    have hlp : (putB l b n).length = N := by rw [hpn]; simp; omega
    have hO := own_store (u := .int .i64 (n + (l.getD i bk0).n)) hown1 (j := i * 2 + 1) (by rw [bkCells_length]; omega)
    rw [hset] at hO
    have HO2 := Lib.hid hO
    have HBf := Lib.hid ((g1.mono hbase).setCell (p := ⟨g, i * 2 + 1, none⟩) hgb (.int .i64 (n + (l.getD i bk0).n)))
    have HL := Lib.hid hlp
    clear hcell hfz hset hO hpn hok hbe hlp
    generalize (l.getD i bk0).n = xn at *
    have hw0 : IntKind.i64.wrap (xn + n) = n + xn := by rw [IntWalk.i64_in _ (by omega)]; omega
    go_wp2_with fail
    go_ret
    exact ⟨some ⟨g, 0, none⟩, c, by rw [HL.out]; rfl, by rw [HL.out]; exact HO2.out, HBf.out⟩
end Go.Proofs.Ytbljhmcenjmjjaa
