/- Top for any number; the document's Top. -/
import Derived.Test.YthghnpopcnnidaaHrAdd
import Derived.Test.YthghnpopcnnidaaHrIns
import Derived.Laws.AppendOwnNone
namespace Go.Proofs.Ythghnpopcnnidaa
open Go.RowKit Go.Lib Vm
open Go.Sort (PermIn SortedIn SWO)
set_option linter.unusedVariables false
set_option linter.unusedSimpArgs false

/-- The two appends of a round leave the row with one tally more. -/
theorem top_next {L : List Ta} {i k : Nat} {x : Ta} {w5 : World} {Z B : Nat} {a5 : Option Addr} {c5 : Nat} (he : insTo L (i + 1) = (insTo L i).take k ++ x :: (insTo L i).drop k) (hk : k ≤ i)
    (ho : w5.ownsRow Z 45 3 (.slice a5 (k + 1 + (i - k)) c5) (k + 1 + (i - k)) (taCells ((insTo L i).take k) ++ [.int .i64 x.k, .int .i64 x.n, .int .i64 x.o] ++ (taCells (insTo L i)).drop (k * 3))) (hb : B ≤ Z) :
    w5.ownsRow B 45 3 (.slice a5 (k + 1 + (i - k)) c5) (i + 1) (taCells (insTo L (i + 1))) := by
  have e : k + 1 + (i - k) = i + 1 := by omega
  have e2 : taCells ((insTo L i).take k) ++ [.int .i64 x.k, .int .i64 x.n, .int .i64 x.o] ++ (taCells (insTo L i)).drop (k * 3) = taCells (insTo L (i + 1)) := by
    rw [he, ← taCells_drop, taCells_append, List.append_assoc]; rfl
  rw [e, e2] at ho
  rw [e]
  exact own_baseN ho hb
theorem top_nextE {L : List Ta} {k : Nat} {x : Ta} {w5 : World} {Z B : Nat} {a5 : Option Addr} {c5 : Nat} (he : insTo L (k + 1) = (insTo L k).take k ++ x :: (insTo L k).drop k) (hl : (insTo L k).length = k)
    (ho : w5.ownsRow Z 45 3 (.slice a5 (k + 1) c5) (k + 1) (taCells ((insTo L k).take k) ++ [.int .i64 x.k, .int .i64 x.n, .int .i64 x.o])) (hb : B ≤ Z) :
    w5.ownsRow B 45 3 (.slice a5 (k + 1) c5) (k + 1) (taCells (insTo L (k + 1))) := by
  have e2 : taCells ((insTo L k).take k) ++ [.int .i64 x.k, .int .i64 x.n, .int .i64 x.o] = taCells (insTo L (k + 1)) := by
    rw [he, List.drop_of_length_le (by omega), taCells_append]; rfl
  rw [e2] at ho
  exact own_baseN ho hb
theorem ta_drop {w w3 : World} {b1 o1 : Nat} {l : List Ta} (h : Sl w w.heap.size (some ⟨b1, o1, none⟩) (taCells l)) (k : Nat) (hb : Below w.heap.size w w3) (j : Nat) (u : Value) (hj : ((taCells l).drop (k * 3))[j]? = some u) : w3.cell? ((⟨b1, o1 + k * 3, none⟩ : Addr).add j) = some u := by
  rcases h.below hb (Nat.le_refl _) with h0 | ⟨b2, o2, e, _, hc⟩
  · rw [h0] at hj; simp at hj
  · injection e with e
    injection e with e1 e2 _
    subst e1 e2
    rw [List.getElem?_drop] at hj
    have := hc _ _ hj
    rw [add_at, ← this]
    congr 2
    omega
theorem ta_drop2 {wo w3 : World} {Z b1 o1 : Nat} {l : List Ta} (h : Sl wo Z (some ⟨b1, o1, none⟩) (taCells l)) (k : Nat) (hb : Below Z wo w3) (j : Nat) (u : Value) (hj : ((taCells l).drop (k * 3))[j]? = some u) : w3.cell? ((⟨b1, o1 + k * 3, none⟩ : Addr).add j) = some u := by
  rcases h.below hb (Nat.le_refl _) with h0 | ⟨b2, o2, e, _, hc⟩
  · rw [h0] at hj; simp at hj
  · injection e with e
    injection e with e1 e2 _
    subst e1 e2
    rw [List.getElem?_drop] at hj
    have := hc _ _ hj
    rw [add_at, ← this]
    congr 2
    omega
theorem own_kind {w : World} {base n c size : Nat} {a : Option Addr} {e : TypeId} {xs : List Value} (h : w.ownsRow base e size (.slice a n c) n xs) : (a = none ∧ n = 0 ∧ c = 0) ∨ ∃ g, a = some ⟨g, 0, none⟩ := by
  rcases h.2 with ⟨hv, hx⟩ | ⟨g, cap, cur, hv, _⟩
  · injection hv with h1 h2 h3
    exact .inl ⟨h1, h2, h3⟩
  · injection hv with h1 h2 h3
    exact .inr ⟨g, h1⟩
theorem top_next0 {L : List Ta} {x : Ta} {w5 : World} {Z B : Nat} {a5 : Option Addr} {c5 : Nat} (he : insTo L (0 + 1) = (insTo L 0).take 0 ++ x :: (insTo L 0).drop 0)
    (ho : w5.ownsRow Z 45 3 (.slice a5 (0 + 1) c5) (0 + 1) (taCells ((insTo L 0).take 0) ++ [.int .i64 x.k, .int .i64 x.n, .int .i64 x.o])) (hb : B ≤ Z) :
    w5.ownsRow B 45 3 (.slice a5 (0 + 1) c5) (0 + 1) (taCells (insTo L (0 + 1))) := by
  have e2 : taCells ((insTo L 0).take 0) ++ [.int .i64 x.k, .int .i64 x.n, .int .i64 x.o] = taCells (insTo L (0 + 1)) := by
    rw [he]; rfl
  rw [e2] at ho
  exact own_baseN ho hb
def RtQ (T : List Ta) (q : Nat) (w : World) (e : Ending) (w' : World) : Prop := ∃ a' c', e = .returned (.slice a' q c') ∧ Sl w' w'.heap.size a' (taCells (T.take q)) ∧ Below w.heap.size w w'
set_option maxRecDepth 100000 in
set_option maxHeartbeats 16000000 in
theorem rtop_walk (n : Int) (H : Hv) (g : Nat) (a : Option Addr) (c q : Nat) (w : World) (hNm : H.L.length ≤ 64) (hq : min n.toNat H.L.length = q) (h : RW w g H a c) :
    Calls Try.prog 20 #[.pointer (some ⟨g, 0, none⟩), .int .i64 n] w (RtQ (insTo H.L H.L.length) q w) := by
  obtain ⟨i0, hi, hz0, hz1, hz2⟩ := info_parts info_ta
  obtain ⟨_, _, m2, _⟩ := h.three
  have hs := ownN_sl h.row
  have hgl := h.lt
  clear h
  obtain ⟨L, hL⟩ : ∃ L, H.L = L := ⟨_, rfl⟩
  rw [hL] at m2 hs hNm hq ⊢
  obtain ⟨N, hN⟩ : ∃ N, L.length = N := ⟨_, rfl⟩
  rw [hN] at m2 hNm hq ⊢
  have HN := Lib.hid hN
  have HM2 := Lib.hid m2
  have HS := Lib.hid hs
  clear hL hN hs m2
  go_enter Try.func20, Try.ntmps20
  go_wp2_with fail
  go_loopw [5, 6] (fun R I wr => ∃ i : Nat, i ≤ N ∧ I = .int .i64 i ∧ wr.ownsRow w.heap.size 45 3 R i (taCells (insTo L i)) ∧ Below w.heap.size w wr) (fun _ I _ => N - (intOf I).toNat)
  case atStart => exact ⟨0, by omega, rfl, World.ownsRow_nil _ _ _ _, Below.refl _ _⟩
  case round =>
    obtain ⟨i, hiN, rfl, hown, hb⟩ := hrel
    have m2 := (hb.cell hgl).trans HM2.out
    have hgw0 : g < wr.heap.size := by have := hb.size; omega
    obtain ⟨ao, co, rfl⟩ := ownN_shape hown
    by_cases hlt : i < N
    · have hlt2 : (i : Int) < (N : Int) := by omega
      have hi00 : 0 ≤ (i : Int) := by omega
      have hso := ownN_sl hown
      obtain ⟨hcn, hco⟩ := ownN_cap hown
      have HAk := Lib.hid (own_kind hown)
      have HOl := Lib.hid (insTo_len L i)
      have hit : insTo L (i + 1) = insT (L.getD i ta0) (insTo L i) := rfl
      obtain ⟨x, hx⟩ : ∃ x, L.getD i ta0 = x := ⟨_, rfl⟩
      rw [hx] at hit
      have HIt := Lib.hid hit
      have HX := Lib.hid hx
      obtain ⟨wo, rfl⟩ : ∃ wo, wo = wr := ⟨_, rfl⟩
      have hbz := hb.size
      obtain ⟨Z, hZ⟩ : ∃ Z, wo.heap.size = Z := ⟨_, rfl⟩
      have HZ := Lib.hid hZ
      have HSo := Lib.hid (show Sl wo wo.heap.size ao (taCells (insTo L i)) from hso)
      rw [hZ] at hbz HSo
      clear hown hx hit hso hZ
      go_wp2_with fail
      go_loopw [7, 8] (fun M K wr => ∃ k : Nat, k ≤ i ∧ K = .int .i64 k ∧ Hid (wr.ownsRow Z 45 3 M k (taCells ((insTo L i).take k))) ∧ Hid (∀ p, p < k → befT ((insTo L i).getD p ta0) x = true) ∧ Below Z wo wr) (fun _ K _ => i - (intOf K).toNat)
      case atStart => exact ⟨0, by omega, rfl, Lib.hid (World.ownsRow_nil _ _ _ _), Lib.hid (fun p hp => by omega), Below.refl _ _⟩
      case round =>
        obtain ⟨k, hki, rfl, HOm, HB, hbk⟩ := hrel
        have hbz2 : Z ≤ wr.heap.size := by have := hbk.size; rw [HZ.out] at this; exact this
        have hbA : Below w.heap.size w wr := hb.trans (hbk.mono hbz)
        have m2 := (hbA.cell hgl).trans HM2.out
        have hgw : g < wr.heap.size := by have := hbA.size; omega
        obtain ⟨ba, oa, rfl, hba, hcA⟩ := (HS.out.below hbA (Nat.le_refl _)).ta (by rw [HN.out]; omega)
        obtain ⟨r0, r1, r2⟩ := hcA i (by rw [HN.out]; exact hlt)
        rw [HX.out] at r0 r1 r2
        have hbaz : ba < wr.heap.size := by have := hbA.size; omega
        obtain ⟨am, cm, hM⟩ := ownN_shape HOm.out
        subst hM
        by_cases hlk : k < i
        · have hlk2 : (k : Int) < (i : Int) := by omega
          have hk0 : 0 ≤ (k : Int) := by omega
          obtain ⟨bo, oo, rfl, hbo, hcO⟩ := (HSo.out.below hbk (Nat.le_refl _)).ta (by rw [HOl.out]; omega)
          obtain ⟨s0, s1, s2⟩ := hcO k (by rw [HOl.out]; exact hlk)
          have HTk := Lib.hid (show taCells ((insTo L i).take (k + 1)) = taCells ((insTo L i).take k) ++ [.int .i64 ((insTo L i).getD k ta0).k, .int .i64 ((insTo L i).getD k ta0).n, .int .i64 ((insTo L i).getD k ta0).o] from by rw [take_get (insTo L i) ta0 k (by rw [HOl.out]; exact hlk), taCells_snoc])
          obtain ⟨y, hy⟩ : ∃ y, (insTo L i).getD k ta0 = y := ⟨_, rfl⟩
          rw [hy] at s0 s1 s2 HTk
          have HY := Lib.hid hy
          have hboz : bo < wr.heap.size := by omega
          have hcs : (decide (x.n < y.n) = true ∧ befT y x = true) ∨ (decide (x.n < y.n) = false ∧ (y.n == x.n) = false ∧ befT y x = false) ∨ (decide (x.n < y.n) = false ∧ (y.n == x.n) = true ∧ decide (y.k < x.k) = true ∧ befT y x = true) ∨ (decide (x.n < y.n) = false ∧ (y.n == x.n) = true ∧ decide (y.k < x.k) = false ∧ befT y x = false) := by
            unfold befT
            cases decide (x.n < y.n) <;> cases (y.n == x.n) <;> cases decide (y.k < x.k) <;> simp
          clear hcA hcO hy
          rcases hcs with ⟨e1, e9⟩ | ⟨e1, e2, e9⟩ | ⟨e1, e2, e3, e9⟩ | ⟨e1, e2, e3, e9⟩
          · have E9 := Lib.hid e9
            clear e9
            go_wp2_with fail
            go_quiet (fail)
            obtain ⟨w2, hw2⟩ : ∃ w2, w2 = wr.drewN nq := ⟨_, rfl⟩
            have m2' : w2.cell? ⟨g, 2, none⟩ = some (.slice (some ⟨ba, oa, none⟩) N c) := by rw [hw2]; exact m2
            have r0' : w2.cell? ⟨ba, oa + i * 3, none⟩ = some (.int .i64 x.k) := by rw [hw2]; exact r0
            have r1' : w2.cell? ⟨ba, oa + i * 3 + 1, none⟩ = some (.int .i64 x.n) := by rw [hw2]; exact r1
            have r2' : w2.cell? ⟨ba, oa + i * 3 + 2, none⟩ = some (.int .i64 x.o) := by rw [hw2]; exact r2
            have s0' : w2.cell? ⟨bo, oo + k * 3, none⟩ = some (.int .i64 y.k) := by rw [hw2]; exact s0
            have s1' : w2.cell? ⟨bo, oo + k * 3 + 1, none⟩ = some (.int .i64 y.n) := by rw [hw2]; exact s1
            have s2' : w2.cell? ⟨bo, oo + k * 3 + 2, none⟩ = some (.int .i64 y.o) := by rw [hw2]; exact s2
            have HOm := Lib.hid (show w2.ownsRow Z 45 3 (.slice am k cm) k (taCells ((insTo L i).take k)) from by rw [hw2]; exact HOm.out)
            have hbk := (show Below Z wo w2 from by rw [hw2]; exact hbk.trans (below_drewN Z wr nq))
            have hbz2 : Z ≤ w2.heap.size := by rw [hw2]; exact hbz2
            have hgw : g < w2.heap.size := by rw [hw2]; exact hgw
            have hbaz : ba < w2.heap.size := by rw [hw2]; exact hbaz
            have hboz : bo < w2.heap.size := by rw [hw2]; exact hboz
            rw [← hw2]
            clear hw2 m2 r0 r1 r2 s0 s1 s2 e1
            obtain ⟨wr, rfl⟩ : ∃ wr, wr = w2 := ⟨_, rfl⟩
            go_wp2_with (at_builtin; refine wpList_append_own _ rfl _ _ 28 rfl Z 45 i0 (.agg #[.int .i64 0, .int .i64 0, .int .i64 0]) 3 24 Try.underlying28 hi hz0 hz1 hz2 rfl (by decide) _ _ _ rfl (HOm.out.alloc _) ⟨wr.heap.size, 0, none⟩ 1 1 [.int .i64 y.k, .int .i64 y.n, .int .i64 y.o] rfl rfl ?c1_1 ?c2_1 ?c3_1 ?c4_1 ?c5_1 ?_)
            case c1_1 =>
              intro j u hj
              match j, hj with
              | 0, hj => simp at hj; subst hj; simp [Addr.add]
              | 1, hj => simp at hj; subst hj; simp [Addr.add]
              | 2, hj => simp at hj; subst hj; simp [Addr.add]
            case c2_1 => intro u hu; simp at hu; rcases hu with rfl | rfl | rfl <;> rfl
            case c3_1 => unfold maxLen; omega
            case c4_1 => omega
            case c5_1 => simp; omega
            intro v' w3 hown' hgrow _
            obtain ⟨a4, c4, rfl⟩ := ownN_shape hown'
            have hb3 := (hbk.alloc hbz2 _).grown hgrow (by simp; omega) (fun q hq => (HOm.out.lt q hq).1)
            have hown3 : w3.ownsRow Z 45 3 (.slice a4 (k + 1) c4) (k + 1) (taCells ((insTo L i).take (k + 1))) := by rw [HTk.out]; exact hown'
            have HO3 := Lib.hid hown3
            clear hown' hgrow hown3 s0' s1' s2' r0' r1' r2'
            go_wp2_with fail
            go_roundw
            case rel => exact ⟨k + 1, by omega, by go_num, HO3, Lib.hid (fun p hp => by
              rcases Nat.lt_or_ge p k with h1 | h1
              · exact HB.out p h1
              · rw [show p = k from by omega, HY.out]; exact E9.out), hb3⟩
            case measure => simp [intOf]; omega

          · have HIx := Lib.hid (show insTo L (i + 1) = (insTo L i).take k ++ x :: (insTo L i).drop k from by rw [HIt.out]; exact insT_at _ k (by rw [HOl.out]; omega) HB.out (.inr (by rw [HY.out]; exact e9)))
            clear e9
            go_wp2_with fail
            go_quiet (fail)
            obtain ⟨w2, hw2⟩ : ∃ w2, w2 = wr.drewN nq := ⟨_, rfl⟩
            have m2' : w2.cell? ⟨g, 2, none⟩ = some (.slice (some ⟨ba, oa, none⟩) N c) := by rw [hw2]; exact m2
            have r0' : w2.cell? ⟨ba, oa + i * 3, none⟩ = some (.int .i64 x.k) := by rw [hw2]; exact r0
            have r1' : w2.cell? ⟨ba, oa + i * 3 + 1, none⟩ = some (.int .i64 x.n) := by rw [hw2]; exact r1
            have r2' : w2.cell? ⟨ba, oa + i * 3 + 2, none⟩ = some (.int .i64 x.o) := by rw [hw2]; exact r2
            have s0' : w2.cell? ⟨bo, oo + k * 3, none⟩ = some (.int .i64 y.k) := by rw [hw2]; exact s0
            have s1' : w2.cell? ⟨bo, oo + k * 3 + 1, none⟩ = some (.int .i64 y.n) := by rw [hw2]; exact s1
            have s2' : w2.cell? ⟨bo, oo + k * 3 + 2, none⟩ = some (.int .i64 y.o) := by rw [hw2]; exact s2
            have HOm := Lib.hid (show w2.ownsRow Z 45 3 (.slice am k cm) k (taCells ((insTo L i).take k)) from by rw [hw2]; exact HOm.out)
            have hbk := (show Below Z wo w2 from by rw [hw2]; exact hbk.trans (below_drewN Z wr nq))
            have hbz2 : Z ≤ w2.heap.size := by rw [hw2]; exact hbz2
            have hgw : g < w2.heap.size := by rw [hw2]; exact hgw
            have hbaz : ba < w2.heap.size := by rw [hw2]; exact hbaz
            have hboz : bo < w2.heap.size := by rw [hw2]; exact hboz
            rw [← hw2]
            clear hw2 m2 r0 r1 r2 s0 s1 s2 e1 e2
            obtain ⟨wr, rfl⟩ : ∃ wr, wr = w2 := ⟨_, rfl⟩
            clear s0' s1' s2'
            have hck : ¬ co = k := by omega
            have HDr := Lib.hid (fun w3 (hb3 : Below Z wo w3) => ta_drop2 HSo.out k hb3)
            go_wp2_with (at_builtin; refine wpList_append_own _ rfl _ _ 28 rfl Z 45 i0 (.agg #[.int .i64 0, .int .i64 0, .int .i64 0]) 3 24 Try.underlying28 hi hz0 hz1 hz2 rfl (by decide) _ _ _ rfl (HOm.out.alloc _) ⟨wr.heap.size, 0, none⟩ 1 1 [.int .i64 x.k, .int .i64 x.n, .int .i64 x.o] rfl rfl ?c1_2 ?c2_2 ?c3_2 ?c4_2 ?c5_2 ?_)
            case c1_2 =>
              intro j u hj
              match j, hj with
              | 0, hj => simp at hj; subst hj; simp [Addr.add]
              | 1, hj => simp at hj; subst hj; simp [Addr.add]
              | 2, hj => simp at hj; subst hj; simp [Addr.add]
            case c2_2 => intro u hu; simp at hu; rcases hu with rfl | rfl | rfl <;> rfl
            case c3_2 => unfold maxLen; omega
            case c4_2 => omega
            case c5_2 => simp; omega
            intro v' w3 hown' hgrow _
            obtain ⟨a4, c4, rfl⟩ := ownN_shape hown'
            have hb3 := (hbk.alloc hbz2 _).grown hgrow (by simp; omega) (fun q hq => (HOm.out.lt q hq).1)
            have HO3 := Lib.hid hown'
            clear hown' hgrow
            go_wp2_with (at_builtin; refine wpList_append_own _ rfl _ _ 28 rfl Z 45 i0 (.agg #[.int .i64 0, .int .i64 0, .int .i64 0]) 3 24 Try.underlying28 hi hz0 hz1 hz2 rfl (by decide) _ _ _ rfl HO3.out ⟨bo, oo + k * 3, none⟩ (i - k) (co - k) ((taCells (insTo L i)).drop (k * 3)) rfl (by rw [List.length_drop, taCells_length, HOl.out]; omega) ?d1_2 ?d2_2 ?d3_2 ?d4_2 ?d5_2 ?_)
            try (case d1_2 => exact HDr.out _ (hb3))
            try (case d2_2 => intro u hu; exact taCells_one (insTo L i) u (List.mem_of_mem_drop hu))
            try (case d3_2 => unfold maxLen; omega)
            try (case d4_2 => omega)
            try (case d5_2 => have := hb3.size; have := HZ.out; omega)
            intro v' w5 hown' hgrow _
            obtain ⟨a5, c5, rfl⟩ := ownN_shape hown'
            have hb5 := hb3.grown hgrow (by have := hb3.size; have := HZ.out; omega) (fun q hq => (HO3.out.lt q hq).1)
            have hfo : w5.ownsRow w.heap.size 45 3 (.slice a5 (k + 1 + (i - k)) c5) (i + 1) (taCells (insTo L (i + 1))) := top_next HIx.out (by omega) (by first | exact hown' | simpa using hown') (by omega)
            have hfb := hb.trans (hb5.mono hbz)
            clear hown' hgrow
            go_wp2_with fail
            go_roundw
            case rel => exact ⟨i + 1, by omega, by go_num, hfo, hfb⟩
            case measure => simp [intOf]; omega

          · have E9 := Lib.hid e9
            clear e9
            go_wp2_with fail
            go_quiet (fail)
            obtain ⟨w2, hw2⟩ : ∃ w2, w2 = wr.drewN nq := ⟨_, rfl⟩
            have m2' : w2.cell? ⟨g, 2, none⟩ = some (.slice (some ⟨ba, oa, none⟩) N c) := by rw [hw2]; exact m2
            have r0' : w2.cell? ⟨ba, oa + i * 3, none⟩ = some (.int .i64 x.k) := by rw [hw2]; exact r0
            have r1' : w2.cell? ⟨ba, oa + i * 3 + 1, none⟩ = some (.int .i64 x.n) := by rw [hw2]; exact r1
            have r2' : w2.cell? ⟨ba, oa + i * 3 + 2, none⟩ = some (.int .i64 x.o) := by rw [hw2]; exact r2
            have s0' : w2.cell? ⟨bo, oo + k * 3, none⟩ = some (.int .i64 y.k) := by rw [hw2]; exact s0
            have s1' : w2.cell? ⟨bo, oo + k * 3 + 1, none⟩ = some (.int .i64 y.n) := by rw [hw2]; exact s1
            have s2' : w2.cell? ⟨bo, oo + k * 3 + 2, none⟩ = some (.int .i64 y.o) := by rw [hw2]; exact s2
            have HOm := Lib.hid (show w2.ownsRow Z 45 3 (.slice am k cm) k (taCells ((insTo L i).take k)) from by rw [hw2]; exact HOm.out)
            have hbk := (show Below Z wo w2 from by rw [hw2]; exact hbk.trans (below_drewN Z wr nq))
            have hbz2 : Z ≤ w2.heap.size := by rw [hw2]; exact hbz2
            have hgw : g < w2.heap.size := by rw [hw2]; exact hgw
            have hbaz : ba < w2.heap.size := by rw [hw2]; exact hbaz
            have hboz : bo < w2.heap.size := by rw [hw2]; exact hboz
            rw [← hw2]
            clear hw2 m2 r0 r1 r2 s0 s1 s2 e1 e2 e3
            obtain ⟨wr, rfl⟩ : ∃ wr, wr = w2 := ⟨_, rfl⟩
            go_wp2_with (at_builtin; refine wpList_append_own _ rfl _ _ 28 rfl Z 45 i0 (.agg #[.int .i64 0, .int .i64 0, .int .i64 0]) 3 24 Try.underlying28 hi hz0 hz1 hz2 rfl (by decide) _ _ _ rfl (HOm.out.alloc _) ⟨wr.heap.size, 0, none⟩ 1 1 [.int .i64 y.k, .int .i64 y.n, .int .i64 y.o] rfl rfl ?c1_3 ?c2_3 ?c3_3 ?c4_3 ?c5_3 ?_)
            case c1_3 =>
              intro j u hj
              match j, hj with
              | 0, hj => simp at hj; subst hj; simp [Addr.add]
              | 1, hj => simp at hj; subst hj; simp [Addr.add]
              | 2, hj => simp at hj; subst hj; simp [Addr.add]
            case c2_3 => intro u hu; simp at hu; rcases hu with rfl | rfl | rfl <;> rfl
            case c3_3 => unfold maxLen; omega
            case c4_3 => omega
            case c5_3 => simp; omega
            intro v' w3 hown' hgrow _
            obtain ⟨a4, c4, rfl⟩ := ownN_shape hown'
            have hb3 := (hbk.alloc hbz2 _).grown hgrow (by simp; omega) (fun q hq => (HOm.out.lt q hq).1)
            have hown3 : w3.ownsRow Z 45 3 (.slice a4 (k + 1) c4) (k + 1) (taCells ((insTo L i).take (k + 1))) := by rw [HTk.out]; exact hown'
            have HO3 := Lib.hid hown3
            clear hown' hgrow hown3 s0' s1' s2' r0' r1' r2'
            go_wp2_with fail
            go_roundw
            case rel => exact ⟨k + 1, by omega, by go_num, HO3, Lib.hid (fun p hp => by
              rcases Nat.lt_or_ge p k with h1 | h1
              · exact HB.out p h1
              · rw [show p = k from by omega, HY.out]; exact E9.out), hb3⟩
            case measure => simp [intOf]; omega

          · have HIx := Lib.hid (show insTo L (i + 1) = (insTo L i).take k ++ x :: (insTo L i).drop k from by rw [HIt.out]; exact insT_at _ k (by rw [HOl.out]; omega) HB.out (.inr (by rw [HY.out]; exact e9)))
            clear e9
            go_wp2_with fail
            go_quiet (fail)
            obtain ⟨w2, hw2⟩ : ∃ w2, w2 = wr.drewN nq := ⟨_, rfl⟩
            have m2' : w2.cell? ⟨g, 2, none⟩ = some (.slice (some ⟨ba, oa, none⟩) N c) := by rw [hw2]; exact m2
            have r0' : w2.cell? ⟨ba, oa + i * 3, none⟩ = some (.int .i64 x.k) := by rw [hw2]; exact r0
            have r1' : w2.cell? ⟨ba, oa + i * 3 + 1, none⟩ = some (.int .i64 x.n) := by rw [hw2]; exact r1
            have r2' : w2.cell? ⟨ba, oa + i * 3 + 2, none⟩ = some (.int .i64 x.o) := by rw [hw2]; exact r2
            have s0' : w2.cell? ⟨bo, oo + k * 3, none⟩ = some (.int .i64 y.k) := by rw [hw2]; exact s0
            have s1' : w2.cell? ⟨bo, oo + k * 3 + 1, none⟩ = some (.int .i64 y.n) := by rw [hw2]; exact s1
            have s2' : w2.cell? ⟨bo, oo + k * 3 + 2, none⟩ = some (.int .i64 y.o) := by rw [hw2]; exact s2
            have HOm := Lib.hid (show w2.ownsRow Z 45 3 (.slice am k cm) k (taCells ((insTo L i).take k)) from by rw [hw2]; exact HOm.out)
            have hbk := (show Below Z wo w2 from by rw [hw2]; exact hbk.trans (below_drewN Z wr nq))
            have hbz2 : Z ≤ w2.heap.size := by rw [hw2]; exact hbz2
            have hgw : g < w2.heap.size := by rw [hw2]; exact hgw
            have hbaz : ba < w2.heap.size := by rw [hw2]; exact hbaz
            have hboz : bo < w2.heap.size := by rw [hw2]; exact hboz
            rw [← hw2]
            clear hw2 m2 r0 r1 r2 s0 s1 s2 e1 e2 e3
            obtain ⟨wr, rfl⟩ : ∃ wr, wr = w2 := ⟨_, rfl⟩
            clear s0' s1' s2'
            have hck : ¬ co = k := by omega
            have HDr := Lib.hid (fun w3 (hb3 : Below Z wo w3) => ta_drop2 HSo.out k hb3)
            go_wp2_with (at_builtin; refine wpList_append_own _ rfl _ _ 28 rfl Z 45 i0 (.agg #[.int .i64 0, .int .i64 0, .int .i64 0]) 3 24 Try.underlying28 hi hz0 hz1 hz2 rfl (by decide) _ _ _ rfl (HOm.out.alloc _) ⟨wr.heap.size, 0, none⟩ 1 1 [.int .i64 x.k, .int .i64 x.n, .int .i64 x.o] rfl rfl ?c1_4 ?c2_4 ?c3_4 ?c4_4 ?c5_4 ?_)
            case c1_4 =>
              intro j u hj
              match j, hj with
              | 0, hj => simp at hj; subst hj; simp [Addr.add]
              | 1, hj => simp at hj; subst hj; simp [Addr.add]
              | 2, hj => simp at hj; subst hj; simp [Addr.add]
            case c2_4 => intro u hu; simp at hu; rcases hu with rfl | rfl | rfl <;> rfl
            case c3_4 => unfold maxLen; omega
            case c4_4 => omega
            case c5_4 => simp; omega
            intro v' w3 hown' hgrow _
            obtain ⟨a4, c4, rfl⟩ := ownN_shape hown'
            have hb3 := (hbk.alloc hbz2 _).grown hgrow (by simp; omega) (fun q hq => (HOm.out.lt q hq).1)
            have HO3 := Lib.hid hown'
            clear hown' hgrow
            go_wp2_with (at_builtin; refine wpList_append_own _ rfl _ _ 28 rfl Z 45 i0 (.agg #[.int .i64 0, .int .i64 0, .int .i64 0]) 3 24 Try.underlying28 hi hz0 hz1 hz2 rfl (by decide) _ _ _ rfl HO3.out ⟨bo, oo + k * 3, none⟩ (i - k) (co - k) ((taCells (insTo L i)).drop (k * 3)) rfl (by rw [List.length_drop, taCells_length, HOl.out]; omega) ?d1_4 ?d2_4 ?d3_4 ?d4_4 ?d5_4 ?_)
            try (case d1_4 => exact HDr.out _ (hb3))
            try (case d2_4 => intro u hu; exact taCells_one (insTo L i) u (List.mem_of_mem_drop hu))
            try (case d3_4 => unfold maxLen; omega)
            try (case d4_4 => omega)
            try (case d5_4 => have := hb3.size; have := HZ.out; omega)
            intro v' w5 hown' hgrow _
            obtain ⟨a5, c5, rfl⟩ := ownN_shape hown'
            have hb5 := hb3.grown hgrow (by have := hb3.size; have := HZ.out; omega) (fun q hq => (HO3.out.lt q hq).1)
            have hfo : w5.ownsRow w.heap.size 45 3 (.slice a5 (k + 1 + (i - k)) c5) (i + 1) (taCells (insTo L (i + 1))) := top_next HIx.out (by omega) (by first | exact hown' | simpa using hown') (by omega)
            have hfb := hb.trans (hb5.mono hbz)
            clear hown' hgrow
            go_wp2_with fail
            go_roundw
            case rel => exact ⟨i + 1, by omega, by go_num, hfo, hfb⟩
            case measure => simp [intOf]; omega
        · obtain rfl : k = i := by omega
          have HIx := Lib.hid (show insTo L (k + 1) = (insTo L k).take k ++ x :: (insTo L k).drop k from by rw [HIt.out]; exact insT_at _ k (by rw [HOl.out]; exact Nat.le_refl _) HB.out (.inl HOl.out.symm))
          go_wp2_with fail
          go_quiet (fail)
          obtain ⟨w2, hw2⟩ : ∃ w2, w2 = wr.drewN nq := ⟨_, rfl⟩
          have m2' : w2.cell? ⟨g, 2, none⟩ = some (.slice (some ⟨ba, oa, none⟩) N c) := by rw [hw2]; exact m2
          have r0' : w2.cell? ⟨ba, oa + k * 3, none⟩ = some (.int .i64 x.k) := by rw [hw2]; exact r0
          have r1' : w2.cell? ⟨ba, oa + k * 3 + 1, none⟩ = some (.int .i64 x.n) := by rw [hw2]; exact r1
          have r2' : w2.cell? ⟨ba, oa + k * 3 + 2, none⟩ = some (.int .i64 x.o) := by rw [hw2]; exact r2

          have HOm := Lib.hid (show w2.ownsRow Z 45 3 (.slice am k cm) k (taCells ((insTo L k).take k)) from by rw [hw2]; exact HOm.out)
          have hbk := (show Below Z wo w2 from by rw [hw2]; exact hbk.trans (below_drewN Z wr nq))
          have hbz2 : Z ≤ w2.heap.size := by rw [hw2]; exact hbz2
          have hgw : g < w2.heap.size := by rw [hw2]; exact hgw
          have hbaz : ba < w2.heap.size := by rw [hw2]; exact hbaz

          rw [← hw2]
          clear hw2 m2 r0 r1 r2 
          obtain ⟨wr, rfl⟩ : ∃ wr, wr = w2 := ⟨_, rfl⟩
          rcases HAk.out with ⟨rfl, hk00, hc0⟩ | ⟨bo, rfl⟩
          · subst hk00 hc0
            simp only [Nat.zero_mul, Nat.add_zero] at r0' r1' r2'
            go_wp2_with (at_builtin; refine wpList_append_own _ rfl _ _ 28 rfl Z 45 i0 (.agg #[.int .i64 0, .int .i64 0, .int .i64 0]) 3 24 Try.underlying28 hi hz0 hz1 hz2 rfl (by decide) _ _ _ rfl (HOm.out.alloc _) ⟨wr.heap.size, 0, none⟩ 1 1 [.int .i64 x.k, .int .i64 x.n, .int .i64 x.o] rfl rfl ?c1_5 ?c2_5 ?c3_5 ?c4_5 ?c5_5 ?_)
            case c2_5 => exact ⟨rfl, rfl, rfl⟩
            case c3_5 => unfold maxLen; omega
            case c5_5 => first | omega | (simp; omega)
            intro v' w3 hown' hgrow _
            obtain ⟨a4, c4, rfl⟩ := ownN_shape hown'
            have hb3 := (hbk.alloc hbz2 _).grown hgrow (by simp; omega) (fun q hq => (HOm.out.lt q hq).1)
            have HO3 := Lib.hid hown'
            clear hown' hgrow
            go_wp2_with (at_builtin; refine wpList_append_own_none rfl _ _ 28 rfl Z 45 i0 3 Try.underlying28 hi _ _ _ rfl HO3.out rfl ?_)
            have hfo : w3.ownsRow w.heap.size 45 3 (.slice a4 (0 + 1) c4) (0 + 1) (taCells (insTo L (0 + 1))) := top_next0 HIx.out (by first | exact HO3.out | simpa using HO3.out) (by omega)
            have hfb := hb.trans (hb3.mono hbz)
            go_wp2_with fail
            go_roundw
            case rel => exact ⟨0 + 1, by omega, by go_num, hfo, hfb⟩
            case measure => simp [intOf]; omega
          · have hdr : (taCells (insTo L k)).drop (k * 3) = [] := List.drop_of_length_le (by rw [taCells_length, HOl.out]; exact Nat.le_refl _)
            have hck : co = k ∨ ¬ co = k := by omega
            rcases hck with hck | hck
            · have hkk : k ≤ k := Nat.le_refl _
              go_wp2_with (at_builtin; refine wpList_append_own _ rfl _ _ 28 rfl Z 45 i0 (.agg #[.int .i64 0, .int .i64 0, .int .i64 0]) 3 24 Try.underlying28 hi hz0 hz1 hz2 rfl (by decide) _ _ _ rfl (HOm.out.alloc _) ⟨wr.heap.size, 0, none⟩ 1 1 [.int .i64 x.k, .int .i64 x.n, .int .i64 x.o] rfl rfl ?c1_6 ?c2_6 ?c3_6 ?c4_6 ?c5_6 ?_)
              case c1_6 =>
                intro j u hj
                match j, hj with
                | 0, hj => simp at hj; subst hj; simp [Addr.add]
                | 1, hj => simp at hj; subst hj; simp [Addr.add]
                | 2, hj => simp at hj; subst hj; simp [Addr.add]
              case c2_6 => intro u hu; simp at hu; rcases hu with rfl | rfl | rfl <;> rfl
              case c3_6 => unfold maxLen; omega
              case c4_6 => omega
              case c5_6 => simp; omega
              intro v' w3 hown' hgrow _
              obtain ⟨a4, c4, rfl⟩ := ownN_shape hown'
              have hb3 := (hbk.alloc hbz2 _).grown hgrow (by simp; omega) (fun q hq => (HOm.out.lt q hq).1)
              have HO3 := Lib.hid hown'
              clear hown' hgrow
              go_wp2_with (at_builtin; refine wpList_append_own _ rfl _ _ 28 rfl Z 45 i0 (.agg #[.int .i64 0, .int .i64 0, .int .i64 0]) 3 24 Try.underlying28 hi hz0 hz1 hz2 rfl (by decide) _ _ _ rfl HO3.out ⟨bo, 0, none⟩ 0 0 [] rfl (by simp) ?d1_6 ?d2_6 ?d3_6 ?d4_6 ?d5_6 ?_)
              try (case d1_6 => intro j u hj; cases hj)
              try (case d2_6 => intro u hu; cases hu)
              try (case d3_6 => unfold maxLen; omega)
              try (case d4_6 => omega)
              try (case d5_6 => have := hb3.size; have := HZ.out; omega)
              intro v' w5 hown' hgrow _
              obtain ⟨a5, c5, rfl⟩ := ownN_shape hown'
              have hb5 := hb3.grown hgrow (by have := hb3.size; have := HZ.out; omega) (fun q hq => (HO3.out.lt q hq).1)
              have hfo : w5.ownsRow w.heap.size 45 3 (.slice a5 (k + 1) c5) (k + 1) (taCells (insTo L (k + 1))) := top_nextE HIx.out HOl.out hown' (by omega)
              have hfb := hb.trans (hb5.mono hbz)
              clear hown' hgrow
              go_wp2_with fail
              go_roundw
              case rel => exact ⟨k + 1, by omega, by go_num, hfo, hfb⟩
              case measure => simp [intOf]; omega
            · have hkk : k ≤ k := Nat.le_refl _
              go_wp2_with (at_builtin; refine wpList_append_own _ rfl _ _ 28 rfl Z 45 i0 (.agg #[.int .i64 0, .int .i64 0, .int .i64 0]) 3 24 Try.underlying28 hi hz0 hz1 hz2 rfl (by decide) _ _ _ rfl (HOm.out.alloc _) ⟨wr.heap.size, 0, none⟩ 1 1 [.int .i64 x.k, .int .i64 x.n, .int .i64 x.o] rfl rfl ?c1_7 ?c2_7 ?c3_7 ?c4_7 ?c5_7 ?_)
              case c1_7 =>
                intro j u hj
                match j, hj with
                | 0, hj => simp at hj; subst hj; simp [Addr.add]
                | 1, hj => simp at hj; subst hj; simp [Addr.add]
                | 2, hj => simp at hj; subst hj; simp [Addr.add]
              case c2_7 => intro u hu; simp at hu; rcases hu with rfl | rfl | rfl <;> rfl
              case c3_7 => unfold maxLen; omega
              case c4_7 => omega
              case c5_7 => simp; omega
              intro v' w3 hown' hgrow _
              obtain ⟨a4, c4, rfl⟩ := ownN_shape hown'
              have hb3 := (hbk.alloc hbz2 _).grown hgrow (by simp; omega) (fun q hq => (HOm.out.lt q hq).1)
              have HO3 := Lib.hid hown'
              clear hown' hgrow
              go_wp2_with (at_builtin; refine wpList_append_own _ rfl _ _ 28 rfl Z 45 i0 (.agg #[.int .i64 0, .int .i64 0, .int .i64 0]) 3 24 Try.underlying28 hi hz0 hz1 hz2 rfl (by decide) _ _ _ rfl HO3.out ⟨bo, k * 3, none⟩ 0 (co - k) [] rfl (by simp) ?d1_7 ?d2_7 ?d3_7 ?d4_7 ?d5_7 ?_)
              try (case d1_7 => intro j u hj; cases hj)
              try (case d2_7 => intro u hu; cases hu)
              try (case d3_7 => unfold maxLen; omega)
              try (case d4_7 => omega)
              try (case d5_7 => have := hb3.size; have := HZ.out; omega)
              intro v' w5 hown' hgrow _
              obtain ⟨a5, c5, rfl⟩ := ownN_shape hown'
              have hb5 := hb3.grown hgrow (by have := hb3.size; have := HZ.out; omega) (fun q hq => (HO3.out.lt q hq).1)
              have hfo : w5.ownsRow w.heap.size 45 3 (.slice a5 (k + 1) c5) (k + 1) (taCells (insTo L (k + 1))) := top_nextE HIx.out HOl.out hown' (by omega)
              have hfb := hb.trans (hb5.mono hbz)
              clear hown' hgrow
              go_wp2_with fail
              go_roundw
              case rel => exact ⟨k + 1, by omega, by go_num, hfo, hfb⟩
              case measure => simp [intOf]; omega
    · obtain rfl : i = N := by omega
      have HO := Lib.hid (ownN_sl hown)
      obtain ⟨hcn, hco⟩ := ownN_cap hown
      have HLn := Lib.hid (insTo_len L i)
      clear hown
      by_cases hn0 : n ≤ 0
      · obtain rfl : q = 0 := by omega
        go_wp2_with fail
        go_ret
        exact ⟨none, 0, rfl, by rw [List.take_zero]; exact Sl.nil _ _ _, hb⟩
      · by_cases hn1 : n < (i : Int)
        · obtain ⟨m, rfl⟩ : ∃ m : Nat, n = (m : Int) := ⟨n.toNat, by omega⟩
          obtain rfl : q = m := by omega
          have hm0 : 0 ≤ (q : Int) := by omega
          have hmc : (q : Int) ≤ (co : Int) := by omega
          have hmc2 : q ≤ co := by omega
          have HP := Lib.hid (ta_pre HO.out q)
          go_wp2_with fail
          go_ret
          exact ⟨ao, co, rfl, HP.out, hb⟩
        · obtain rfl : q = i := by omega
          go_wp2_with fail
          go_ret
          exact ⟨ao, co, rfl, by rw [List.take_of_length_le (by rw [HLn.out]; exact Nat.le_refl _)]; exact HO.out, hb⟩
end Go.Proofs.Ythghnpopcnnidaa
