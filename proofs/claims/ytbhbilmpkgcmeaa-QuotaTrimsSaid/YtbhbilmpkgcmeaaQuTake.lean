/- The walk of quota.Take. -/
import Derived.Test.YtbhbilmpkgcmeaaQuValid
import Derived.Test.YtbhbilmpkgcmeaaAcIns
import Derived.Test.YtbhbilmpkgcmeaaAcFind
import Derived.Deep.RegionHeld3
namespace Go.Proofs.Ytbhbilmpkgcmeaa
open Go.RowKit Vm
set_option linter.unusedVariables false

def GoodQ (t m : Int) (l : List Ac) (who n now : Int) : Prop := RightQ t m l now ∧ (0 ≤ who ∧ who ≤ 1099511627776) ∧ 0 ≤ n
/-- What taking so much answers. -/
def TkIs (t m : Int) (l : List Ac) (who n now : Int) (D : List Ac) (W E : Int) : Prop :=
  (¬ GoodQ t m l who n now ∧ D = [] ∧ W = 0 ∧ E = 1) ∨
  (GoodQ t m l who n now ∧ m < n ∧ D = [] ∧ W = 0 ∧ E = 6) ∨
  (GoodQ t m l who n now ∧ n ≤ m ∧ getR acKey l who = none ∧ l.length = 64 ∧ D = [] ∧ W = 0 ∧ E = 5) ∨
  (GoodQ t m l who n now ∧ n ≤ m ∧ getR acKey l who = none ∧ l.length < 64 ∧ D = putR acKey l ⟨who, m - n, now⟩ ∧ W = 0 ∧ E = 0) ∨
  (GoodQ t m l who n now ∧ n ≤ m ∧ (∃ x, getR acKey l who = some x ∧ n ≤ availQ t m x now ∧ D = putR acKey l ⟨who, availQ t m x now - n, now⟩) ∧ W = 0 ∧ E = 0) ∨
  (GoodQ t m l who n now ∧ n ≤ m ∧ (∃ x, getR acKey l who = some x ∧ availQ t m x now < n ∧ D = l ∧ W = (n - availQ t m x now + t - 1) / t) ∧ E = 10)
theorem tkIs_ex (t m : Int) (l : List Ac) (who n now : Int) : ∃ D W E, TkIs t m l who n now D W E := by
  by_cases hg : GoodQ t m l who n now
  · by_cases h1 : m < n
    · exact ⟨_, _, _, .inr (.inl ⟨hg, h1, rfl, rfl, rfl⟩)⟩
    · cases hx : getR acKey l who with
      | none =>
        by_cases h2 : l.length = 64
        · exact ⟨_, _, _, .inr (.inr (.inl ⟨hg, by omega, hx, h2, rfl, rfl, rfl⟩))⟩
        · have := hg.1.2.2.1
          exact ⟨_, _, _, .inr (.inr (.inr (.inl ⟨hg, by omega, hx, by omega, rfl, rfl, rfl⟩)))⟩
      | some x =>
        by_cases h2 : n ≤ availQ t m x now
        · exact ⟨_, _, _, .inr (.inr (.inr (.inr (.inl ⟨hg, by omega, ⟨x, hx, h2, rfl⟩, rfl, rfl⟩))))⟩
        · exact ⟨_, _, _, .inr (.inr (.inr (.inr (.inr ⟨hg, by omega, ⟨x, hx, by omega, rfl, rfl⟩, rfl⟩))))⟩
  · exact ⟨_, _, _, .inl ⟨hg, rfl, rfl, rfl⟩⟩
def QPost (w : World) (D : List Ac) (W E : Int) (e : Ending) (w' : World) : Prop :=
  ∃ a c, e = .returned (.tuple #[.slice a D.length c, .int .i64 W, .int .i64 E]) ∧ Sl w' w'.heap.size a (acCells D) ∧ Below w.heap.size w w' ∧ (a = none → c = 0) ∧ D.length ≤ c
/-- And whose row is a new one. -/
def QPostF (w : World) (D : List Ac) (W E : Int) (e : Ending) (w' : World) : Prop :=
  ∃ a c, e = .returned (.tuple #[.slice a D.length c, .int .i64 W, .int .i64 E]) ∧ Sl w' w'.heap.size a (acCells D) ∧ Below w.heap.size w w' ∧ (a = none → c = 0) ∧ D.length ≤ c ∧ ∀ x, a = some x → w.heap.size ≤ x.block
theorem rightQ_asc {t m now : Int} {l : List Ac} (h : RightQ t m l now) : AscR acKey ac0 l := by
  apply ascR_step
  intro i hi
  have := (h.2.2.2 (i + 1) hi).2.2.2.2.2 (by omega)
  simpa [acKey] using this
theorem ac_store (l : List Ac) (i : Nat) (v u : Int) (hi : i < l.length) : ((acCells l).set (i * 3 + 1) (.int .i64 v)).set (i * 3 + 2) (.int .i64 u) = acCells (l.set i ⟨(l.getD i ac0).o, v, u⟩) := by
  rw [acCells_set1 l i v hi, acCells_set2 _ i u (by simpa using hi)]
  congr 1
  simp [List.getD, hi]
theorem held5 {w1 w3 w4 : World} {b g o : Nat} {v0 v1 c0 c1 c2 : Value} (h : w3.cell? ⟨b, 0, none⟩ = some v0 ∧ w3.cell? ⟨b, 1, none⟩ = some v1 ∧ w3.cell? ⟨g, o, none⟩ = some c0 ∧ w3.cell? ⟨g, o + 1, none⟩ = some c1 ∧ w3.cell? ⟨g, o + 2, none⟩ = some c2 ∧ Below w1.heap.size w1 w3) (hb : Below w3.heap.size w3 w4) :
    w4.cell? ⟨b, 0, none⟩ = some v0 ∧ w4.cell? ⟨b, 1, none⟩ = some v1 ∧ w4.cell? ⟨g, o, none⟩ = some c0 ∧ w4.cell? ⟨g, o + 1, none⟩ = some c1 ∧ w4.cell? ⟨g, o + 2, none⟩ = some c2 ∧ Below w1.heap.size w1 w4 := by
  obtain ⟨h0, h1, h2, h3, h4, h5⟩ := h
  exact ⟨(hb.cell (cell_lt h0)).trans h0, (hb.cell (cell_lt h1)).trans h1, (hb.cell (cell_lt h2)).trans h2, (hb.cell (cell_lt h3)).trans h3, (hb.cell (cell_lt h4)).trans h4, gtrans h5 hb⟩

set_option maxRecDepth 100000 in
set_option maxHeartbeats 4000000 in
theorem qtake_bad (t m : Int) (l : List Ac) (N : Nat) (a : Option Addr) (c B : Nat) (who n now : Int) (w : World) (hN : l.length = N) (hg : ¬ GoodQ t m l who n now) (h : Sl w B a (acCells l)) (hB : B ≤ w.heap.size) :
    Calls Try.prog 37 #[.agg #[.int .i64 t, .int .i64 m], .slice a N c, .int .i64 who, .int .i64 n, .int .i64 now] w (QPostF w [] 0 1) := by
  have hal : Below w.heap.size w (w.alloc (.cells #[.int .i64 t, .int .i64 m] 60)) := balloc _ _
  have h' := h.below hal hB
  have hB' : B ≤ (w.alloc (.cells #[.int .i64 t, .int .i64 m] 60)).heap.size := by simp; omega
  by_cases hr : ¬ RightQ t m l now
  · have HV := Lib.hid (qvalid_walk t m l N a c B now _ false hN (.inr ⟨hr, rfl⟩) h' hB')
    clear hr hg h'
    go_enter Try.func37, Try.ntmps37
    go_wp2_with fail
    refine HV.out.mono ?_
    rintro e w1 ⟨rfl, g1⟩
    go_wp2_with fail
    go_ret3
    exact ⟨none, 0, rfl, .inl rfl, gtrans hal g1, fun _ => rfl, Nat.le_refl _, fun x h => by cases h⟩
  have hr := Classical.not_not.1 hr
  have HV := Lib.hid (qvalid_walk t m l N a c B now _ true hN (.inl ⟨hr, rfl⟩) h' hB')
  by_cases hw : ¬ (0 ≤ who ∧ who ≤ 1099511627776)
  · have HN := Lib.hid (fun w => number_no who w hw)
    clear hr hg h' hw
    go_enter Try.func37, Try.ntmps37
    go_wp2_with fail
    refine HV.out.mono ?_
    rintro e w1 ⟨rfl, g1⟩
    go_wp2_with fail
    refine (HN.out _).mono ?_
    rintro e w1 ⟨rfl, rfl⟩
    go_wp2_with fail
    go_ret3
    exact ⟨none, 0, rfl, .inl rfl, gtrans hal g1, fun _ => rfl, Nat.le_refl _, fun x h => by cases h⟩
  have hw := Classical.not_not.1 hw
  have HN := Lib.hid (fun w => number_yes who w hw.1 hw.2)
  have hn : n < 0 := by
    apply Classical.byContradiction
    intro hc
    exact hg ⟨hr, hw, by omega⟩
  clear hr hg h' hw
  go_enter Try.func37, Try.ntmps37
  go_wp2_with fail
  refine HV.out.mono ?_
  rintro e w1 ⟨rfl, g1⟩
  go_wp2_with fail
  refine (HN.out _).mono ?_
  rintro e w1 ⟨rfl, rfl⟩
  go_wp2_with fail
  go_ret3
  exact ⟨none, 0, rfl, .inl rfl, gtrans hal g1, fun _ => rfl, Nat.le_refl _, fun x h => by cases h⟩

set_option maxRecDepth 100000 in
set_option maxHeartbeats 4000000 in
theorem qtake_yes (t m : Int) (l : List Ac) (N : Nat) (a : Option Addr) (c B : Nat) (who n now : Int) (w : World) (D : List Ac) (W E : Int) (hN : l.length = N) (hg : GoodQ t m l who n now) (hT : TkIs t m l who n now D W E) (h : Sl w B a (acCells l)) (hB : B ≤ w.heap.size) :
    Calls Try.prog 37 #[.agg #[.int .i64 t, .int .i64 m], .slice a N c, .int .i64 who, .int .i64 n, .int .i64 now] w (QPostF w D W E) := by
  have hal : Below w.heap.size w (w.alloc (.cells #[.int .i64 t, .int .i64 m] 60)) := balloc _ _
  have h' := h.below hal hB
  have hB' : B ≤ (w.alloc (.cells #[.int .i64 t, .int .i64 m] 60)).heap.size := by simp; omega
  have hal2 : w.heap.size + 1 ≤ (w.alloc (.cells #[.int .i64 t, .int .i64 m] 60)).heap.size := by simp
  have HV := Lib.hid (qvalid_walk t m l N a c B now _ true hN (.inl ⟨hg.1, rfl⟩) h' hB')
  have HNm := Lib.hid (fun w => number_yes who w hg.2.1.1 hg.2.1.2)
  have c0 : ∀ w1, Below (w.heap.size + 1) (w.alloc (.cells #[.int .i64 t, .int .i64 m] 60)) w1 → w1.cell? ⟨w.heap.size, 0, none⟩ = some (.int .i64 t) ∧ w1.cell? ⟨w.heap.size, 1, none⟩ = some (.int .i64 m) := fun w1 g => by
    refine ⟨?_, ?_⟩ <;> (rw [g.cell (by simp), World.cell?_alloc_at _ _ _ _ rfl]; rfl)
  have C0 := Lib.hid c0
  have hn0 : ¬ n < 0 := by have := hg.2.2; omega
  clear c0
  by_cases hmn : m < n
  · obtain ⟨rfl, rfl, rfl⟩ : D = [] ∧ W = 0 ∧ E = 6 := by
      rcases hT with ⟨h1, _⟩ | ⟨_, _, h2⟩ | ⟨_, h1, _⟩ | ⟨_, h1, _⟩ | ⟨_, h1, _⟩ | ⟨_, h1, _⟩
      · exact absurd hg h1
      · exact h2
      all_goals omega
    clear hg hT
    go_enter Try.func37, Try.ntmps37
    go_wp2_with fail
    refine HV.out.mono ?_
    rintro e w1 ⟨rfl, g1⟩
    go_wp2_with fail
    refine (HNm.out _).mono ?_
    rintro e w1 ⟨rfl, rfl⟩
    obtain ⟨d0, d1⟩ := C0.out _ (g1.mono hal2)
    go_wp2_with fail
    go_ret3
    exact ⟨none, 0, rfl, .inl rfl, gtrans hal g1, fun _ => rfl, Nat.le_refl _, fun x h => by cases h⟩
  have hN64 : N ≤ 64 := by have := hg.1.2.2.1; omega
  have CL := Lib.hid (fun w h hB => clone_ac l N a c B w hN (by omega) h hB)
  have FD := Lib.hid (fun w a c h => find_ac l N a c w.heap.size who w hN (by omega) (rightQ_asc hg.1) h (Nat.le_refl _))
  unfold FPost_ac at FD
  have HG := Lib.hid hg
  have HT := Lib.hid hT
  have HNe := Lib.hid hN
  clear hT hg hN
  go_enter Try.func37, Try.ntmps37
  go_wp2_with fail
  refine HV.out.mono ?_
  rintro e w1 ⟨rfl, g1⟩
  go_wp2_with fail
  refine (HNm.out _).mono ?_
  rintro e w1 ⟨rfl, rfl⟩
  have q1 := g1.mono hal2
  obtain ⟨d0, d1⟩ := C0.out _ q1
  have s1 := h'.below g1 hB'
  have hB1 := Nat.le_trans hB' g1.size
  have hz1 : w.heap.size + 1 ≤ w1.heap.size := Nat.le_trans hal2 g1.size
  clear HV HNm h' hB'
  go_wp2_with fail
  refine (CL.out _ s1 hB1).mono ?_
  rintro e w2 ⟨a2, c2, rfl, own2, g2⟩
  have q2 := q1.trans (g2.mono hz1)
  have hz2 := g2.size
  clear CL d0 d1 s1 hB1 q1
  go_wp2_with fail
  refine (FD.out _ _ _ (ownN_sl own2)).mono ?_
  rintro e w3 ⟨i, f, hAt, hf, rfl, g3⟩
  have q3 := q2.trans (g3.mono (by omega))
  have own3 := own_keep own2 g3
  have hz3 := g3.size
  clear FD own2 q2
  have HAt := Lib.hid hAt
  have hi := hAt.1
  clear hAt
  cases f with
  | true =>
    obtain ⟨hiN, hbe⟩ := hf.1 rfl
    clear hf
    obtain ⟨g, rfl, hgb, hgw, hfz, hcell⟩ := ownN_at own3 (by omega)
    have hil : i < l.length := by have := HNe.out; omega
    obtain ⟨k0, k1, k2⟩ := acCells_at l i hil
    have r0 := hcell _ _ k0
    have r1 := hcell _ _ k1
    have r2 := hcell _ _ k2
    have f1 := hfz (i * 3 + 1)
    have f2 := hfz (i * 3 + 2)
    have hOK := HG.out.1.2.2.2 i hil
    unfold OkQ at hOK
    have hgx := getR_at acKey ac0 HAt.out hil hbe
    have hst := fun v u => ac_store l i v u hil
    obtain ⟨x, hx⟩ : ∃ x, l.getD i ac0 = x := ⟨_, rfl⟩
    simp only [hx] at r0 r1 r2 hOK hgx hst hbe
    have HX := Lib.hid hx
    clear hx hcell hfz k0 k1 k2
    have hxo : x.o = who := hbe
    have ht := HG.out.1.1
    have hav := availQ_le (t := t) (m := m) (a := x) (now := now) ht.1 hOK.2.1 (by have := ht.2.2; omega) hOK.2.2.2.2.1
    have HAV := Lib.hid (fun w => avail_walk t m x now w ht ⟨hOK.2.1, hOK.2.2.1⟩ ⟨hOK.2.2.2.1, hOK.2.2.2.2.1⟩ HG.out.1.2.1.2)
    have hD : (n ≤ availQ t m x now ∧ D = putR acKey l ⟨who, availQ t m x now - n, now⟩ ∧ W = 0 ∧ E = 0) ∨ (availQ t m x now < n ∧ D = l ∧ W = (n - availQ t m x now + t - 1) / t ∧ E = 10) := by
      rcases HT.out with ⟨h1, _⟩ | ⟨_, h1, _⟩ | ⟨_, _, h1, _⟩ | ⟨_, _, h1, _⟩ | ⟨_, _, ⟨y, h1, h2⟩, h3⟩ | ⟨_, _, ⟨y, h1, h2, h3, h4⟩, h5⟩
      · exact absurd HG.out h1
      · omega
      · rw [hgx] at h1; cases h1
      · rw [hgx] at h1; cases h1
      · rw [hgx] at h1; injection h1 with h1; subst h1; exact .inl ⟨h2.1, h2.2, h3⟩
      · rw [hgx] at h1; injection h1 with h1; subst h1; exact .inr ⟨h2, h3, h4, h5⟩
    have ht1 := ht.1
    have ht2 := ht.2.1
    have hm2 := ht.2.2.2
    have hOx := hOK.1
    clear hOK ht hgx
    generalize availQ t m x now = av at *
    obtain ⟨xo, xl, xs⟩ := x
    simp only at r0 r1 r2 hst hxo HAV hOx
    subst hxo
    obtain ⟨d0, d1⟩ := C0.out _ q3
    have hw0 : IntKind.i64.wrap (n - av) = n - av := IntWalk.i64_in _ (by omega)
    have hS0 : w3.drew.cell? ⟨w.heap.size, 0, none⟩ = some (.int .i64 t) ∧ w3.drew.cell? ⟨w.heap.size, 1, none⟩ = some (.int .i64 m) ∧ w3.drew.cell? ⟨g, i * 3, none⟩ = some (.int .i64 xo) ∧ w3.drew.cell? ⟨g, i * 3 + 1, none⟩ = some (.int .i64 xl) ∧ w3.drew.cell? ⟨g, i * 3 + 2, none⟩ = some (.int .i64 xs) ∧ Below w3.heap.size w3 w3.drew := ⟨d0, d1, r0, r1, r2, (Below.refl _ _).drew⟩
    go_wp2_with fail
    go_region_held3 (fun w' => w'.cell? ⟨w.heap.size, 0, none⟩ = some (.int .i64 t) ∧ w'.cell? ⟨w.heap.size, 1, none⟩ = some (.int .i64 m) ∧ w'.cell? ⟨g, i * 3, none⟩ = some (.int .i64 xo) ∧ w'.cell? ⟨g, i * 3 + 1, none⟩ = some (.int .i64 xl) ∧ w'.cell? ⟨g, i * 3 + 2, none⟩ = some (.int .i64 xs) ∧ Below w3.heap.size w3 w')
      (with_reducible assumption)
      (first | (go_at_call 67; refine (HAV.out _).mono ?_; rintro e w5 ⟨rfl, g5⟩; have y := held5 (by with_reducible assumption) g5))
    obtain ⟨e0, e1, e2, e3, e4, e5⟩ := y
    have own5 := own_keep own3 e5
    have q5 := q3.trans (e5.mono (by omega))
    have hz5 := e5.size
    obtain ⟨g', hg', _, _, hfz, _⟩ := ownN_at own5 (by omega)
    injection hg' with hg'
    injection hg' with hg' _ _
    subst hg'
    try clear f1 f2
    have f1 := hfz (i * 3 + 1)
    have f2 := hfz (i * 3 + 2)
    have b5 := gtrans (gtrans (gtrans (gtrans hal g1) g2) g3) e5
    have HO := Lib.hid own5
    have HFR := Lib.hid (⟨f1, f2⟩ : w5.frozen? ⟨g, i * 3 + 1, none⟩ = false ∧ w5.frozen? ⟨g, i * 3 + 2, none⟩ = false)
    clear hfz g1 g2 g3 g5 e5 own3 own5 r0 r1 r2 d0 d1 hS0 q3 q5 hal HAV C0 f1 f2
    rcases hD with ⟨hle, rfl, rfl, rfl⟩ | ⟨hgt, rfl, rfl, rfl⟩
    · have hl0 : ¬ 0 < n - av := by omega
      have hneg : wrap64 (-(n - av)) = av - n := by rw [IntWalk.wrap64_in _ (by omega)]; omega
      have hneg2 : -(n - av) = av - n := by omega
      have hO1 := ownN_store (u := .int .i64 (av - n)) HO.out (j := i * 3 + 1) (by rw [acCells_length]; omega)
      have hO2 := ownN_store (u := .int .i64 now) hO1 (j := i * 3 + 2) (by rw [List.length_set, acCells_length]; omega)
      have hps : l.set i ⟨xo, av - n, now⟩ = putR acKey l ⟨xo, av - n, now⟩ := putR_set (x := (⟨xo, av - n, now⟩ : Ac)) acKey ac0 HAt.out hil (by rw [HX.out]; rfl)
      rw [hst, hps] at hO2
      have hlen : (putR acKey l ⟨xo, av - n, now⟩).length = N := by
        rw [← hps, List.length_set]; exact HNe.out
      have HO2 := Lib.hid hO2
      have HL := Lib.hid hlen
      have hbf := (b5.setCell (p := ⟨g, i * 3 + 1, none⟩) (show w.heap.size ≤ g by omega) (.int .i64 (av - n))).setCell (p := ⟨g, i * 3 + 2, none⟩) (show w.heap.size ≤ g by omega) (.int .i64 now)
      have HBf := Lib.hid hbf
      obtain ⟨f1, f2⟩ := HFR.out
      clear hO1 hO2 hlen hbf hst hps
      go_wp2_with fail
      go_ret3
      exact ⟨some ⟨g, 0, none⟩, c2, by rw [HL.out]; rfl, by have := ownN_sl HO2.out; exact this, HBf.out, (fun h => by cases h), by rw [HL.out]; have := ownN_cap HO.out; exact this.2, fun x h => by cases h; show w.heap.size ≤ g; omega⟩
    · have hl0 : 0 < n - av := by omega
      have hw1 : IntKind.i64.wrap (n - av + t) = n - av + t := IntWalk.i64_in _ (by omega)
      have hw2 : IntKind.i64.wrap (n - av + t - 1) = n - av + t - 1 := IntWalk.i64_in _ (by omega)
      have hq : (n - av + t - 1).tdiv t = (n - av + t - 1) / t := Int.tdiv_eq_ediv_of_nonneg (by omega)
      have hq0 : ¬ t = 0 := by omega
      have hq1 : 0 ≤ (n - av + t - 1) / t := Int.ediv_nonneg (by omega) (by omega)
      have hq2 : (n - av + t - 1) / t ≤ n - av + t - 1 := Int.ediv_le_self _ (by omega)
      have HQ := Lib.hid (show wrap64 ((n - av + t - 1) / t) = (n - av + t - 1) / t from IntWalk.wrap64_in _ (by omega))
      clear hq1 hq2
      clear hst
      go_wp2_with fail
      go_quiet (fail)
      go_wp2_with fail
      go_ret3
      exact ⟨some ⟨g, 0, none⟩, c2, by rw [HNe.out]; show Ending.returned (.tuple #[_, .int .i64 (wrap64 ((n - av + t - 1) / t)), _]) = _; rw [HQ.out]; rfl, by have := ownN_sl HO.out; exact this, b5.trans (below_drewN _ _ _), (fun h => by cases h), by rw [HNe.out]; have := ownN_cap HO.out; exact this.2, fun x h => by cases h; show w.heap.size ≤ g; omega⟩
  | false =>
    have hno : ¬ (i < N ∧ acKey (l.getD i ac0) = who) := fun h => by have := hf.2 h; cases this
    clear hf
    have hno' : ¬ (i < l.length ∧ acKey (l.getD i ac0) = who) := by rw [HNe.out]; exact hno
    have hgx := getR_at_none acKey ac0 HAt.out (rightQ_asc HG.out.1) hno'
    have ht := HG.out.1.1
    have ht1 := ht.1
    have hm1 := ht.2.2.1
    have hm2 := ht.2.2.2
    have hD : (N = 64 ∧ D = [] ∧ W = 0 ∧ E = 5) ∨ (N < 64 ∧ D = putR acKey l ⟨who, m - n, now⟩ ∧ W = 0 ∧ E = 0) := by
      have hN := HNe.out
      rcases HT.out with ⟨h1, _⟩ | ⟨_, h1, _⟩ | ⟨_, _, h1, h2, h3⟩ | ⟨_, _, h1, h2, h3⟩ | ⟨_, _, ⟨y, h1, h2⟩, h3⟩ | ⟨_, _, ⟨y, h1, h2, h3, h4⟩, h5⟩
      · exact absurd HG.out h1
      · omega
      · exact .inl ⟨by omega, h3⟩
      · exact .inr ⟨by omega, h3⟩
      · rw [hgx] at h1; cases h1
      · rw [hgx] at h1; cases h1
    clear hgx hno ht
    have b3 := gtrans (gtrans (gtrans hal g1) g2) g3
    rcases hD with ⟨rfl, rfl, rfl, rfl⟩ | ⟨hN6, rfl, rfl, rfl⟩
    · clear hno'
      go_wp2_with fail
      go_ret3
      exact ⟨none, 0, rfl, .inl rfl, b3, fun _ => rfl, Nat.le_refl _, fun x h => by cases h⟩
    have hNne : ¬ N = 64 := by omega
    have hNne2 : ¬ (N : Int) = 64 := by omega
    have hps := Lib.hid (putR_ins (x := (⟨who, m - n, now⟩ : Ac)) (y := (⟨who, m, now⟩ : Ac)) acKey ac0 (l := l) (i := i) HAt.out hno')
    have hil : i < (ins_ac l i ⟨who, m, now⟩).length := by unfold ins_ac; rw [insR_length hi]; omega
    have hlen := Lib.hid (show (putR acKey l ⟨who, m - n, now⟩).length = N + 1 by
      rw [putR_new acKey ac0 HAt.out hno', insR_length hi, HNe.out])
    have hst := ac_store (ins_ac l i ⟨who, m, now⟩) i (m - n) now hil
    have hgd : (ins_ac l i ⟨who, m, now⟩).getD i ac0 = ⟨who, m, now⟩ := insR_getD ac0 hi
    rw [hgd] at hst
    unfold ins_ac at hst
    simp only at hst
    have hps2 := hps.out
    rw [hps2] at hst
    have HST := Lib.hid hst
    have halv := balloc w3 (.cells #[.int .i64 who, .int .i64 m, .int .i64 now] 102)
    have hv := heap_alloc_new w3 (.cells #[.int .i64 who, .int .i64 m, .int .i64 now] 102)
    have hne : (Value.slice a2 N c2).ownBlock ≠ some w3.heap.size := fun h => by have := (own3.lt _ h).2; omega
    have HI := Lib.hid (insert_ac l N a2 c2 w1.heap.size i ⟨who, m, now⟩ _ w3.heap.size HNe.out (by omega) (by have := HNe.out; omega) (own_keep own3 halv) hv hne (Nat.le_trans (by omega) halv.size))
    have q4 := q3.trans (halv.mono (by omega))
    have b4 := b3.trans (halv.mono (by omega))
    have hz4 := halv.size
    obtain ⟨d0, d1⟩ := C0.out _ q3
    have HG1 := Lib.hid hil
    clear hno' hne hv halv own3 b3 g1 g2 g3 hst hps hps2 hgd q3 hil
    unfold IPost_ac at HI
    go_wp2_with fail
    refine HI.out.mono ?_
    rintro e w4 ⟨a4, c4, rfl, own4, g4⟩
    have q5 := q4.trans (g4.mono (by omega))
    have b5 := b4.trans (g4.mono (by omega))
    have hz5 : w1.heap.size ≤ w4.heap.size := by have := g4.size; omega
    obtain ⟨g, rfl, hgb, hgw, hfz, hcell⟩ := ownN_at own4 (by omega)
    obtain ⟨k0, k1, k2⟩ := acCells_at (ins_ac l i ⟨who, m, now⟩) i HG1.out
    have hgd : (ins_ac l i ⟨who, m, now⟩).getD i ac0 = ⟨who, m, now⟩ := insR_getD ac0 hi
    rw [hgd] at k0 k1 k2
    have r0 := hcell _ _ k0
    have r1 := hcell _ _ k1
    have r2 := hcell _ _ k2
    simp only at r0 r1 r2
    clear hcell k0 k1 k2 hgd hfz HI q4 b4
    obtain ⟨d0, d1⟩ := C0.out _ q5
    have hiN1 : i < N + 1 := by have := HNe.out; omega
    have hav : availQ t m ⟨who, m, now⟩ now = m := by unfold availQ; simp
    have hnow := HG.out.1.2.1
    have HAV := Lib.hid (fun w => avail_walk t m ⟨who, m, now⟩ now w HG.out.1.1 ⟨by simp only; omega, Int.le_refl _⟩ ⟨hnow.1, Int.le_refl _⟩ hnow.2)
    rw [hav] at HAV
    simp only at HAV
    have hw0 : IntKind.i64.wrap (n - m) = n - m := IntWalk.i64_in _ (by omega)
    have hS0 : w4.drew.cell? ⟨w.heap.size, 0, none⟩ = some (.int .i64 t) ∧ w4.drew.cell? ⟨w.heap.size, 1, none⟩ = some (.int .i64 m) ∧ w4.drew.cell? ⟨g, i * 3, none⟩ = some (.int .i64 who) ∧ w4.drew.cell? ⟨g, i * 3 + 1, none⟩ = some (.int .i64 m) ∧ w4.drew.cell? ⟨g, i * 3 + 2, none⟩ = some (.int .i64 now) ∧ Below w4.heap.size w4 w4.drew := ⟨d0, d1, r0, r1, r2, (Below.refl _ _).drew⟩
    clear hav
    go_wp2_with fail
    go_region_held3 (fun w' => w'.cell? ⟨w.heap.size, 0, none⟩ = some (.int .i64 t) ∧ w'.cell? ⟨w.heap.size, 1, none⟩ = some (.int .i64 m) ∧ w'.cell? ⟨g, i * 3, none⟩ = some (.int .i64 who) ∧ w'.cell? ⟨g, i * 3 + 1, none⟩ = some (.int .i64 m) ∧ w'.cell? ⟨g, i * 3 + 2, none⟩ = some (.int .i64 now) ∧ Below w4.heap.size w4 w')
      (with_reducible assumption)
      (first | (go_at_call 67; refine (HAV.out _).mono ?_; rintro e w5 ⟨rfl, g5⟩; have y := held5 (by with_reducible assumption) g5))
    obtain ⟨e0, e1, e2, e3, e4, e5⟩ := y
    have own5 := own_keep own4 e5
    have hz6 := e5.size
    obtain ⟨g', hg', _, _, hfz, _⟩ := ownN_at own5 (by omega)
    injection hg' with hg'
    injection hg' with hg' _ _
    subst hg'
    have f1 := hfz (i * 3 + 1)
    have f2 := hfz (i * 3 + 2)
    have b6 := b5.trans (e5.mono (by omega))
    have hl0 : ¬ 0 < n - m := by omega
    have hneg : wrap64 (-(n - m)) = m - n := by rw [IntWalk.wrap64_in _ (by omega)]; omega
    have hneg2 : -(n - m) = m - n := by omega
    have hcl : i * 3 + 2 < (acCells (ins_ac l i ⟨who, m, now⟩)).length := by rw [acCells_length]; have := HG1.out; omega
    have hO1 := ownN_store (u := .int .i64 (m - n)) own5 (j := i * 3 + 1) (by omega)
    have hO2 := ownN_store (u := .int .i64 now) hO1 (j := i * 3 + 2) (by rw [List.length_set]; exact hcl)
    unfold ins_ac at hO2
    rw [HST.out] at hO2
    have HO2 := Lib.hid hO2
    have HO := Lib.hid own5
    have hbf := (b6.setCell (p := ⟨g, i * 3 + 1, none⟩) (show w.heap.size ≤ g by omega) (.int .i64 (m - n))).setCell (p := ⟨g, i * 3 + 2, none⟩) (show w.heap.size ≤ g by omega) (.int .i64 now)
    have HBf := Lib.hid hbf
    clear hO1 hO2 hbf hfz hcl own5 own4 HAV hS0 r0 r1 r2 d0 d1 g4 g5 e5 b5 q5 C0 hal
    go_wp2_with fail
    go_ret3
    exact ⟨some ⟨g, 0, none⟩, c4, by rw [hlen.out]; rfl, by have := ownN_sl HO2.out; exact this, HBf.out, (fun h => by cases h), by rw [hlen.out]; have := ownN_cap HO.out; exact this.2, fun x h => by cases h; show w.heap.size ≤ g; omega⟩
theorem qtake_fresh (t m : Int) (l : List Ac) (N : Nat) (a : Option Addr) (c B : Nat) (who n now : Int) (w : World) (D : List Ac) (W E : Int) (hN : l.length = N) (hT : TkIs t m l who n now D W E) (h : Sl w B a (acCells l)) (hB : B ≤ w.heap.size) :
    Calls Try.prog 37 #[.agg #[.int .i64 t, .int .i64 m], .slice a N c, .int .i64 who, .int .i64 n, .int .i64 now] w (QPostF w D W E) := by
  by_cases hg : GoodQ t m l who n now
  · exact qtake_yes t m l N a c B who n now w D W E hN hg hT h hB
  · obtain ⟨rfl, rfl, rfl⟩ : D = [] ∧ W = 0 ∧ E = 1 := by
      rcases hT with ⟨_, h2⟩ | ⟨h1, _⟩ | ⟨h1, _⟩ | ⟨h1, _⟩ | ⟨h1, _⟩ | ⟨h1, _⟩
      · exact h2
      all_goals exact absurd h1 hg
    exact qtake_bad t m l N a c B who n now w hN hg h hB
theorem qtake_walk (t m : Int) (l : List Ac) (N : Nat) (a : Option Addr) (c B : Nat) (who n now : Int) (w : World) (D : List Ac) (W E : Int) (hN : l.length = N) (hT : TkIs t m l who n now D W E) (h : Sl w B a (acCells l)) (hB : B ≤ w.heap.size) :
    Calls Try.prog 37 #[.agg #[.int .i64 t, .int .i64 m], .slice a N c, .int .i64 who, .int .i64 n, .int .i64 now] w (QPost w D W E) :=
  (qtake_fresh t m l N a c B who n now w D W E hN hT h hB).mono fun e w' ⟨a', c', h1, h2, h3, h4, h5, _⟩ => ⟨a', c', h1, h2, h3, h4, h5⟩
end Go.Proofs.Ytbhbilmpkgcmeaa
