/- The walk of the statement QuotaTrims of layer 36. -/
import Derived.Test.YtbhbilmpkgcmeaaQuTrimW
import Derived.Test.YtbhbilmpkgcmeaaLQuotaTakes
namespace Go.Proofs.Ytbhbilmpkgcmeaa
open Go.RowKit Vm
set_option linter.unusedVariables false
set_option linter.unusedSimpArgs false

theorem srtR_filter {α : Type} (key : α → Int) (q : α → Bool) : ∀ {l : List α} {lo : Option Int}, SrtR key lo l → SrtR key lo (l.filter q) := by
  intro l
  induction l with
  | nil => intro lo h; exact h
  | cons x t ih =>
    intro lo h
    rw [List.filter_cons]
    split
    · exact ⟨h.1, ih h.2⟩
    · refine srtR_weak key (ih h.2) (fun y hy => ⟨key x, rfl, ?_⟩)
      have := h.1 y hy; omega
theorem srtR_uniq {α : Type} (key : α → Int) : ∀ {l : List α} {lo : Option Int}, SrtR key lo l → ∀ x ∈ l, ∀ y ∈ l, key x = key y → x = y := by
  intro l
  induction l with
  | nil => intro lo _ x hx; cases hx
  | cons z t ih =>
    intro lo h x hx y hy he
    have hab := srtR_above key h.2
    rcases List.mem_cons.1 hx with hx1 | hx1
    · rcases List.mem_cons.1 hy with hy1 | hy1
      · rw [hx1, hy1]
      · have := hab y hy1; rw [← hx1] at this; omega
    · rcases List.mem_cons.1 hy with hy1 | hy1
      · have := hab x hx1; rw [← hy1] at this; omega
      · exact ih h.2 x hx1 y hy1 he
theorem rightQ_srt {t m now : Int} {l : List Ac} (h : RightQ t m l now) : SrtR acKey none l := ascR_srt acKey ac0 (rightQ_asc h)
theorem rightQ_mem {t m now : Int} {l : List Ac} (h : RightQ t m l now) : ∀ x ∈ l, (0 ≤ x.o ∧ x.o ≤ 1099511627776) ∧ 0 ≤ x.l ∧ x.l ≤ m ∧ 0 ≤ x.s ∧ x.s ≤ now := by
  intro x hx
  obtain ⟨i, hi, rfl⟩ := List.mem_iff_getElem.1 hx
  have := h.2.2.2 i hi
  unfold OkQ at this
  rw [show l.getD i ac0 = l[i] from by simp [List.getD, hi]] at this
  exact ⟨this.1, this.2.1, this.2.2.1, this.2.2.2.1, this.2.2.2.2.1⟩
theorem keepQ_mem {t m now : Int} {l : List Ac} {x : Ac} : x ∈ keepQ t m now l ↔ x ∈ l ∧ ¬ FullQ t m now x := by
  unfold keepQ FullQ
  rw [List.mem_filter]; simp
theorem keepQ_right {t m now : Int} {l : List Ac} (h : RightQ t m l now) : RightQ t m (keepQ t m now l) now := by
  refine ⟨h.1, h.2.1, Nat.le_trans (keepQ_len t m now l) h.2.2.1, fun i hi => ?_⟩
  have hs : SrtR acKey none (keepQ t m now l) := srtR_filter acKey _ (rightQ_srt h)
  have ha := srtR_asc acKey ac0 hs
  have hm := rightQ_mem h _ (keepQ_mem.1 (getD_mem _ ac0 i hi)).1
  refine ⟨hm.1, hm.2.1, hm.2.2.1, hm.2.2.2.1, hm.2.2.2.2, fun h0 => ?_⟩
  have := ha (i - 1) i (by omega) hi
  unfold acKey at this
  exact this
theorem keepQ_none {t m now who : Int} {l : List Ac} (hn : getR acKey l who = none) : getR acKey (keepQ t m now l) who = none :=
  getR_none_of acKey (fun x hx => getR_none acKey hn x (keepQ_mem.1 hx).1)
theorem keepQ_some {t m now who : Int} {l : List Ac} {x : Ac} (h : RightQ t m l now) (hx : getR acKey l who = some x) :
    (FullQ t m now x ∧ getR acKey (keepQ t m now l) who = none ∧ (keepQ t m now l).length < l.length) ∨ (¬ FullQ t m now x ∧ getR acKey (keepQ t m now l) who = some x) := by
  obtain ⟨h1, h2⟩ := getR_some acKey hx
  have hu := srtR_uniq acKey (rightQ_srt h)
  by_cases hf : FullQ t m now x
  · refine .inl ⟨hf, getR_none_of acKey (fun y hy he => ?_), ?_⟩
    · obtain ⟨h3, h4⟩ := keepQ_mem.1 hy
      rw [hu y h3 x h1 (he.trans h2.symm)] at h4
      exact h4 hf
    · unfold keepQ
      exact List.length_filter_lt_length_iff_exists.2 ⟨x, h1, by unfold FullQ at hf; simp [hf]⟩
  · refine .inr ⟨hf, ?_⟩
    cases hg : getR acKey (keepQ t m now l) who with
    | none => exact absurd h2 (getR_none acKey hg x (keepQ_mem.2 ⟨h1, hf⟩))
    | some y =>
      obtain ⟨h3, h4⟩ := getR_some acKey hg
      rw [hu y (keepQ_mem.1 h3).1 x h1 (h4.trans h2.symm)]
/-- Nobody is told otherwise by a trimming. -/
theorem tk_same {t m now who n : Int} {l D1 D2 : List Ac} {W1 W2 E1 E2 : Int} (h : RightQ t m l now) (h1 : TkIs t m l who n now D1 W1 E1) (h2 : TkIs t m (keepQ t m now l) who n now D2 W2 E2) : W1 = W2 ∧ (E1 = E2 ∨ (E1 = 5 ∧ E2 = 0)) := by
  have hk := keepQ_right h
  have hg : GoodQ t m l who n now ↔ GoodQ t m (keepQ t m now l) who n now := ⟨fun hh => ⟨hk, hh.2⟩, fun hh => ⟨h, hh.2⟩⟩
  have hlen := keepQ_len t m now l
  have h64 := h.2.2.1
  rcases h1 with ⟨a1, _, rfl, rfl⟩ | ⟨a1, a2, _, rfl, rfl⟩ | ⟨a1, a2, a3, a4, _, rfl, rfl⟩ | ⟨a1, a2, a3, a4, _, rfl, rfl⟩ | ⟨a1, a2, ⟨x, a3, a4, _⟩, rfl, rfl⟩ | ⟨a1, a2, ⟨x, a3, a4, _, rfl⟩, rfl⟩
  · rw [hg] at a1
    rcases h2 with ⟨_, _, rfl, rfl⟩ | ⟨b1, _⟩ | ⟨b1, _⟩ | ⟨b1, _⟩ | ⟨b1, _⟩ | ⟨b1, _⟩
    · exact ⟨rfl, .inl rfl⟩
    all_goals exact absurd b1 a1
  · rw [hg] at a1
    rcases h2 with ⟨b1, _⟩ | ⟨_, _, _, rfl, rfl⟩ | ⟨_, b1, _⟩ | ⟨_, b1, _⟩ | ⟨_, b1, _⟩ | ⟨_, b1, _⟩
    · exact absurd a1 b1
    · exact ⟨rfl, .inl rfl⟩
    all_goals omega
  · rw [hg] at a1
    have hn := keepQ_none (t := t) (m := m) (now := now) a3
    rcases h2 with ⟨b1, _⟩ | ⟨_, b1, _⟩ | ⟨_, _, _, _, _, rfl, rfl⟩ | ⟨_, _, _, _, _, rfl, rfl⟩ | ⟨_, _, ⟨y, b1, _⟩, _⟩ | ⟨_, _, ⟨y, b1, _⟩, _⟩
    · exact absurd a1 b1
    · omega
    · exact ⟨rfl, .inl rfl⟩
    · exact ⟨rfl, .inr ⟨rfl, rfl⟩⟩
    · rw [hn] at b1; cases b1
    · rw [hn] at b1; cases b1
  · rw [hg] at a1
    have hn := keepQ_none (t := t) (m := m) (now := now) a3
    rcases h2 with ⟨b1, _⟩ | ⟨_, b1, _⟩ | ⟨_, _, _, b1, _⟩ | ⟨_, _, _, _, _, rfl, rfl⟩ | ⟨_, _, ⟨y, b1, _⟩, _⟩ | ⟨_, _, ⟨y, b1, _⟩, _⟩
    · exact absurd a1 b1
    · omega
    · omega
    · exact ⟨rfl, .inl rfl⟩
    · rw [hn] at b1; cases b1
    · rw [hn] at b1; cases b1
  · rw [hg] at a1
    rcases keepQ_some h a3 with ⟨c1, c2, c3⟩ | ⟨c1, c2⟩
    · rcases h2 with ⟨b1, _⟩ | ⟨_, b1, _⟩ | ⟨_, _, _, b1, _⟩ | ⟨_, _, _, _, _, rfl, rfl⟩ | ⟨_, _, ⟨y, b1, _⟩, _⟩ | ⟨_, _, ⟨y, b1, _⟩, _⟩
      · exact absurd a1 b1
      · omega
      · omega
      · exact ⟨rfl, .inl rfl⟩
      · rw [c2] at b1; cases b1
      · rw [c2] at b1; cases b1
    · rcases h2 with ⟨b1, _⟩ | ⟨_, b1, _⟩ | ⟨_, _, b1, _⟩ | ⟨_, _, b1, _⟩ | ⟨_, _, ⟨y, b1, _⟩, rfl, rfl⟩ | ⟨_, _, ⟨y, b1, b2, _⟩, _⟩
      · exact absurd a1 b1
      · omega
      · rw [c2] at b1; cases b1
      · rw [c2] at b1; cases b1
      · exact ⟨rfl, .inl rfl⟩
      · rw [c2] at b1; injection b1 with b1; subst b1; omega
  · rw [hg] at a1
    rcases keepQ_some h a3 with ⟨c1, c2, c3⟩ | ⟨c1, c2⟩
    · unfold FullQ at c1; omega
    · rcases h2 with ⟨b1, _⟩ | ⟨_, b1, _⟩ | ⟨_, _, b1, _⟩ | ⟨_, _, b1, _⟩ | ⟨_, _, ⟨y, b1, b2, _⟩, _⟩ | ⟨_, _, ⟨y, b1, _, _, rfl⟩, rfl⟩
      · exact absurd a1 b1
      · omega
      · rw [c2] at b1; cases b1
      · rw [c2] at b1; cases b1
      · rw [c2] at b1; injection b1 with b1; subst b1; omega
      · rw [c2] at b1; injection b1 with b1; subst b1; exact ⟨rfl, .inl rfl⟩
set_option maxRecDepth 100000 in
set_option maxHeartbeats 4000000 in
theorem quotaTrims_law (t m : Int) (l : List Ac) (a1 : Option Addr) (c1 : Nat) (who n now : Int) (w : World) (ht : (Lit.int .i64 t).wf = true) (hm : (Lit.int .i64 m).wf = true)
    (hl1 : Sl w w.heap.size a1 (acCells l)) (hi1 : ∀ r ∈ l, AcI r) (hc1 : (a1 = none → c1 = 0) ∧ l.length ≤ c1 ∧ c1 ≤ maxLen) (hwho : (Lit.int .i64 who).wf = true) (hn : (Lit.int .i64 n).wf = true) (hnow : (Lit.int .i64 now).wf = true) :
    Calls Try.prog 10 #[.agg #[.int .i64 t, .int .i64 m], .slice a1 l.length c1, .int .i64 who, .int .i64 n, .int .i64 now] w fun e w' => e = .returned (.bool true) ∧ Below w.heap.size w w' := by
  obtain ⟨N, hN⟩ : ∃ N, l.length = N := ⟨_, rfl⟩
  rw [hN] at hc1 ⊢
  have hal := balloc w (.cells #[.int .i64 t, .int .i64 m] 60)
  by_cases hz : 80 < N
  · have hz2 : (80 : Int) < (N : Int) := by omega
    go_enter Try.func10, Try.ntmps10
    go_wp2_with fail
    refine (awake36_walk _).mono ?_
    rintro e w1 ⟨rfl, g1⟩
    go_wp2_with fail
    go_ret
    exact ⟨rfl, gtrans hal g1⟩
  have hz2 : ¬ (80 : Int) < (N : Int) := by omega
  have R0 := Whole.new w 60 #[.int .i64 t, .int .i64 m]
  have p0 := (hl1.below hal (Nat.le_refl _)).grow hal.size
  obtain ⟨D, E, hT⟩ := trIs_ex t m now l
  have hDl : D.length ≤ 80 := by
    rcases hT with ⟨_, rfl, _⟩ | ⟨_, rfl, _⟩
    · have := keepQ_len t m now l; omega
    · simp
  have T1 := Lib.hid (fun w h => qtrim_walk t m now l N a1 c1 w.heap.size w D E hN hT h (Nat.le_refl _))
  have T2 := Lib.hid (fun w h => rtrim_walk t m now l N a1 c1 w.heap.size w D E hN hT h (Nat.le_refl _))
  unfold TrPost at T1 T2
  have S1 := Lib.hid (fun a1 a2 c1 c2 w h1 h2 => same_ac D D.length a1 a2 c1 c2 w.heap.size w rfl (by omega) h1 h2 (Nat.le_refl _))
  have HNe := Lib.hid hN
  have HT := Lib.hid hT
  obtain ⟨k0, k1⟩ : _ ∧ _ := ⟨R0.cell 0, R0.cell 1⟩
  simp only [List.getElem?_toArray, List.getElem?_cons_zero, List.getElem?_cons_succ] at k0 k1
  clear hT hN hc1 hl1
  go_enter Try.func10, Try.ntmps10
  go_wp2_with fail
  refine (T1.out _ p0).mono ?_
  rintro e w1 ⟨a2, c2, rfl, s1, g1⟩
  have R1 := R0.keep g1
  have b1 := gtrans hal g1
  have p1 := (p0.below g1 (Nat.le_refl _)).grow g1.size
  clear k0 k1
  obtain ⟨k0, k1⟩ : _ ∧ _ := ⟨R1.cell 0, R1.cell 1⟩
  have hr1 := R1.lt
  simp only [List.getElem?_toArray, List.getElem?_cons_zero, List.getElem?_cons_succ] at k0 k1
  go_wp2_with fail
  refine (T2.out _ p1).mono ?_
  rintro e w2 ⟨a3, c3, rfl, s2, g2⟩
  have R2 := R1.keep g2
  have b2 := gtrans b1 g2
  have p2 := (p1.below g2 (Nat.le_refl _)).grow g2.size
  have u2 := (s1.below g2 (Nat.le_refl _)).grow g2.size
  clear k0 k1
  go_wp2_with fail
  refine (S1.out _ _ _ _ _ u2 s2).mono ?_
  rintro e w3 ⟨rfl, g3⟩
  have R3 := R2.keep g3
  have b3 := gtrans b2 g3
  have p3 := (p2.below g3 (Nat.le_refl _)).grow g3.size
  have u3 := (u2.below g3 (Nat.le_refl _)).grow g3.size
  obtain ⟨k0, k1⟩ : _ ∧ _ := ⟨R3.cell 0, R3.cell 1⟩
  have hr3 := R3.lt
  simp only [List.getElem?_toArray, List.getElem?_cons_zero, List.getElem?_cons_succ] at k0 k1
  rcases HT.out with ⟨hR, hD, rfl⟩ | ⟨hR, _, rfl⟩
  · obtain ⟨D1, W1, E1, hK1⟩ := tkIs_ex t m l who n now
    obtain ⟨D2, W2, E2, hK2⟩ := tkIs_ex t m D who n now
    obtain ⟨rfl, hE⟩ := tk_same hR hK1 (by rw [← hD]; exact hK2)
    have Q1 := Lib.hid (fun w h => qtake_walk t m l N a1 c1 w.heap.size who n now w D1 W1 E1 HNe.out hK1 h (Nat.le_refl _))
    have Q2 := Lib.hid (fun w h => qtake_walk t m D D.length a2 c2 w.heap.size who n now w D2 W1 E2 rfl hK2 h (Nat.le_refl _))
    unfold QPost at Q1 Q2
    clear hK1 hK2 hD hR HT T1 T2 S1
    go_wp2_with fail
    refine (Q1.out _ p3).mono ?_
    rintro e w4 ⟨a4, c4, rfl, _, g4, _, _⟩
    have R4 := R3.keep g4
    have b4 := gtrans b3 g4
    have u4 := (u3.below g4 (Nat.le_refl _)).grow g4.size
    clear k0 k1
    obtain ⟨k0, k1⟩ : _ ∧ _ := ⟨R4.cell 0, R4.cell 1⟩
    have hr4 := R4.lt
    simp only [List.getElem?_toArray, List.getElem?_cons_zero, List.getElem?_cons_succ] at k0 k1
    go_wp2_with fail
    refine (Q2.out _ u4).mono ?_
    rintro e w5 ⟨a5, c5, rfl, _, g5, _, _⟩
    have b5 := gtrans b4 g5
    rcases hE with rfl | ⟨rfl, rfl⟩
    all_goals
      go_wp2_with fail
      refine (awake36_walk _).mono ?_
      rintro e w6 ⟨rfl, g6⟩
      go_wp2_with fail
      go_ret
      exact ⟨rfl, gtrans b5 g6⟩
  · clear hR HT
    go_wp2_with fail
    refine (awake36_walk _).mono ?_
    rintro e w6 ⟨rfl, g6⟩
    go_wp2_with fail
    go_ret
    exact ⟨rfl, gtrans b3 g6⟩
end Go.Proofs.Ytbhbilmpkgcmeaa
