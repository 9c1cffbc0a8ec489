/- The walk of txn.Fold. -/
import Derived.Test.YtfjnmjibifefgaaTxChange
import Derived.Test.YtfjnmjibifefgaaTrIns
import Derived.Deep.RegionHeld3
namespace Go.Proofs.Ytfjnmjibifefgaa
open Go.RowKit Vm
set_option linter.unusedVariables false

def FdPost (w : World) (D : List Tr) (E : Int) (e : Ending) (w' : World) : Prop :=
  ∃ a c, e = .returned (.tuple #[.slice a D.length c, .int .i64 E]) ∧ Sl w' w'.heap.size a (trCells D) ∧ Below w.heap.size w w' ∧ (a = none → c = 0) ∧ D.length ≤ c
theorem held3n {w1 w3 w4 : World} {b base : Nat} {v0 v1 v2 : Value} (h : w3.cell? ⟨b, 0, none⟩ = some v0 ∧ w3.cell? ⟨b, 1, none⟩ = some v1 ∧ w3.cell? ⟨b, 2, none⟩ = some v2 ∧ b < base ∧ Below base w1 w3) (hb : Below base w3 w4) :
    w4.cell? ⟨b, 0, none⟩ = some v0 ∧ w4.cell? ⟨b, 1, none⟩ = some v1 ∧ w4.cell? ⟨b, 2, none⟩ = some v2 ∧ b < base ∧ Below base w1 w4 := by
  obtain ⟨h0, h1, h2, h3, h5⟩ := h
  exact ⟨(hb.cell (p := ⟨b, 0, none⟩) h3).trans h0, (hb.cell (p := ⟨b, 1, none⟩) h3).trans h1, (hb.cell (p := ⟨b, 2, none⟩) h3).trans h2, h3, h5.trans hb⟩
theorem tr_one' (a b c d e : Int) : ∀ v ∈ ([.int .i64 a, .int .i64 b, .int .i64 c, .int .i64 d, .int .i64 e] : List Value), v.oneCell' = true := fun v hv => by simp at hv; rcases hv with rfl | rfl | rfl | rfl | rfl <;> rfl

set_option maxRecDepth 100000 in
set_option maxHeartbeats 4000000 in
theorem tfold_bad (l : List Tr) (N : Nat) (a : Option Addr) (c B : Nat) (k p m : Int) (w : World) (hN : l.length = N) (hNm : N ≤ maxLen) (hg : ¬ (MayN k p m ∧ RightT l)) (h : Sl w B a (trCells l)) (hB : B ≤ w.heap.size) :
    Calls Try.prog 26 #[.slice a N c, .agg #[.int .i64 k, .int .i64 p, .int .i64 m]] w (FdPost w [] 1) := by
  have hal : Below w.heap.size w (w.alloc (.cells #[.int .i64 k, .int .i64 p, .int .i64 m] 50)) := balloc _ _
  have h' := h.below hal hB
  have hB' : B ≤ (w.alloc (.cells #[.int .i64 k, .int .i64 p, .int .i64 m] 50)).heap.size := by simp; omega
  by_cases hr : ¬ MayN k p m
  · have HV := Lib.hid (fun w => tcheck_walk k p m 1 w (.inr ⟨hr, rfl⟩))
    clear hr hg h'
    go_enter Try.func26, Try.ntmps26
    go_wp2_with fail
    refine (HV.out _).mono ?_
    rintro e w1 ⟨rfl, g1⟩
    go_wp2_with fail
    go_ret2
    exact ⟨none, 0, rfl, .inl rfl, gtrans hal g1, fun _ => rfl, Nat.le_refl _⟩
  have hr := Classical.not_not.1 hr
  have hrt : ¬ RightT l := fun h => hg ⟨hr, h⟩
  have HV := Lib.hid (fun w => tcheck_walk k p m 0 w (.inl ⟨hr, rfl⟩))
  have HV2 := Lib.hid (fun w h hB => tvalid_walk l N a c B w false hN hNm (.inr ⟨hrt, rfl⟩) h hB)
  clear hr hg hrt
  go_enter Try.func26, Try.ntmps26
  go_wp2_with fail
  refine (HV.out _).mono ?_
  rintro e w1 ⟨rfl, g1⟩
  have s1 := h'.below g1 hB'
  go_wp2_with fail
  refine (HV2.out _ s1 (Nat.le_trans hB' g1.size)).mono ?_
  rintro e w2 ⟨rfl, g2⟩
  go_wp2_with fail
  go_ret2
  exact ⟨none, 0, rfl, .inl rfl, gtrans (gtrans hal g1) g2, fun _ => rfl, Nat.le_refl _⟩

set_option maxRecDepth 100000 in
set_option maxHeartbeats 4000000 in
theorem tfold_yes (l : List Tr) (N : Nat) (a : Option Addr) (c B : Nat) (k p m : Int) (w : World) (D : List Tr) (E : Int) (hN : l.length = N) (hNm : N ≤ maxLen) (hg : MayN k p m ∧ RightT l) (hT : FdIs l k p m D E) (h : Sl w B a (trCells l)) (hB : B ≤ w.heap.size) :
    Calls Try.prog 26 #[.slice a N c, .agg #[.int .i64 k, .int .i64 p, .int .i64 m]] w (FdPost w D E) := by
  have hal : Below w.heap.size w (w.alloc (.cells #[.int .i64 k, .int .i64 p, .int .i64 m] 50)) := balloc _ _
  have h' := h.below hal hB
  have hB' : B ≤ (w.alloc (.cells #[.int .i64 k, .int .i64 p, .int .i64 m] 50)).heap.size := by simp; omega
  have hal2 : w.heap.size + 1 ≤ (w.alloc (.cells #[.int .i64 k, .int .i64 p, .int .i64 m] 50)).heap.size := by simp
  have HV := Lib.hid (fun w => tcheck_walk k p m 0 w (.inl ⟨hg.1, rfl⟩))
  have HV2 := Lib.hid (fun w h hB => tvalid_walk l N a c B w true hN hNm (.inl ⟨hg.2, rfl⟩) h hB)
  have hN8 : N ≤ 8 := by have := preT_le hg.2; omega
  have CL := Lib.hid (fun w h hB => clone_tr l N a c B w hN (by omega) h hB)
  have FD := Lib.hid (fun w a c h => find_tr l N a c w.heap.size p w hN (by omega) (rightT_asc hg.2) h (Nat.le_refl _))
  unfold FPost_tr at FD
  have c0 : ∀ w1, Below (w.heap.size + 1) (w.alloc (.cells #[.int .i64 k, .int .i64 p, .int .i64 m] 50)) w1 → w1.cell? ⟨w.heap.size, 0, none⟩ = some (.int .i64 k) ∧ w1.cell? ⟨w.heap.size, 1, none⟩ = some (.int .i64 p) ∧ w1.cell? ⟨w.heap.size, 2, none⟩ = some (.int .i64 m) := fun w1 g => by
    refine ⟨?_, ?_, ?_⟩ <;> (rw [g.cell (by simp), World.cell?_alloc_at _ _ _ _ rfl]; rfl)
  have C0 := Lib.hid c0
  have HG := Lib.hid hg
  have HT := Lib.hid hT
  have HNe := Lib.hid hN
  have hk15 := hg.1.1
  have hp18 := hg.1.2.1
  clear c0 hg hT hN h
  go_enter Try.func26, Try.ntmps26
  go_wp2_with fail
  refine (HV.out _).mono ?_
  rintro e w1 ⟨rfl, g1⟩
  have q1 := g1.mono hal2
  have s1 := h'.below g1 hB'
  have hB1 := Nat.le_trans hB' g1.size
  have z1 : w.heap.size + 1 ≤ w1.heap.size := Nat.le_trans hal2 g1.size
  have b1 := gtrans hal g1
  clear HV h' hB' hal g1
  go_wp2_with fail
  refine (HV2.out _ s1 hB1).mono ?_
  rintro e w2 ⟨rfl, g2⟩
  have q2 := q1.trans (g2.mono z1)
  have s2 := s1.below g2 hB1
  have hB2 := Nat.le_trans hB1 g2.size
  have z2 : w.heap.size + 1 ≤ w2.heap.size := Nat.le_trans z1 g2.size
  have b2 := gtrans b1 g2
  clear HV2 s1 b1 g2 q1 hB1
  go_wp2_with fail
  refine (CL.out _ s2 hB2).mono ?_
  rintro e w3 ⟨a3, c3, rfl, own3, g3⟩
  have q3 := q2.trans (g3.mono z2)
  have z3 : w.heap.size + 1 ≤ w3.heap.size := Nat.le_trans z2 g3.size
  have hz23 := g3.size
  have b3 := gtrans b2 g3
  clear CL s2 b2 g3 q2 hB2
  obtain ⟨d0, d1, d2⟩ := C0.out _ q3
  go_wp2_with fail
  refine (FD.out _ _ _ (ownN_sl own3)).mono ?_
  rintro e w4 ⟨i, f, hAt, hf, rfl, g4⟩
  have q4 := q3.trans (g4.mono z3)
  have z4 : w.heap.size + 1 ≤ w4.heap.size := Nat.le_trans z3 g4.size
  have hz24 : w2.heap.size ≤ w4.heap.size := Nat.le_trans hz23 g4.size
  have b4 := gtrans b3 g4
  have own4 := own_keep own3 g4
  have HAt := Lib.hid hAt
  have hi := hAt.1
  clear FD own3 b3 g4 q3 hAt d0 d1 d2
  obtain ⟨d0, d1, d2⟩ := C0.out _ q4
  cases f with
  | true =>
    obtain ⟨hiN, hbe⟩ := hf.1 rfl
    clear hf
    have hil : i < l.length := by have := HNe.out; omega
    have hgx := getR_at trKey tr0 HAt.out hil hbe
    have hok := HG.out.2 i hil
    unfold OkT at hok
    obtain ⟨x, hx⟩ : ∃ x, l.getD i tr0 = x := ⟨_, rfl⟩
    rw [hx] at hgx hok
    obtain ⟨g, rfl, hgb, hgw, hfz, hcell⟩ := ownN_at own4 (by omega)
    have HCh := Lib.hid (change_walk l N g c3 w2.heap.size i x k p m w4.drew HNe.out hiN hx ⟨hok.2.1, hok.2.2.1⟩ hk15 own4 (by exact hz24))
    have hD : (turnT x k m = none ∧ D = [] ∧ E = 9) ∨ ∃ y, turnT x k m = some y ∧ ((1099511627776 < y.e ∧ D = [] ∧ E = 6) ∨ (¬ 1099511627776 < y.e ∧ D = putR trKey l y ∧ E = 0)) := by
      rcases HT.out with ⟨h1, _⟩ | ⟨_, h1, _⟩ | ⟨_, y, h1, h2⟩
      · exact absurd HG.out h1
      · rw [hgx] at h1; cases h1
      · rw [hgx] at h1
        injection h1 with h1
        subst h1
        rcases h2 with h2 | ⟨y, h2, h3 | ⟨h3, h4⟩⟩
        · exact .inl h2
        · exact .inr ⟨y, h2, .inl h3⟩
        · exact .inr ⟨y, h2, .inr ⟨by omega, h4⟩⟩
    have hS0 : w4.drew.cell? ⟨w.heap.size, 0, none⟩ = some (.int .i64 k) ∧ w4.drew.cell? ⟨w.heap.size, 1, none⟩ = some (.int .i64 p) ∧ w4.drew.cell? ⟨w.heap.size, 2, none⟩ = some (.int .i64 m) ∧ w.heap.size < w2.heap.size ∧ Below w2.heap.size w4 w4.drew := ⟨d0, d1, d2, by omega, (Below.refl _ _).drew⟩
    have HO4 := Lib.hid own4
    have HBE := Lib.hid hbe
    have HX := Lib.hid hx
    clear hcell hfz hgx hok own4 hbe
    unfold ChPost at HCh
    rcases hD with ⟨hto, rfl, rfl⟩ | ⟨y, hto, hD⟩
    · rw [hto] at HCh
      clear hto hx
      go_wp2_with fail
      go_region_held3 (fun w' => w'.cell? ⟨w.heap.size, 0, none⟩ = some (.int .i64 k) ∧ w'.cell? ⟨w.heap.size, 1, none⟩ = some (.int .i64 p) ∧ w'.cell? ⟨w.heap.size, 2, none⟩ = some (.int .i64 m) ∧ w.heap.size < w2.heap.size ∧ Below w2.heap.size w4 w')
        (with_reducible assumption)
        (first | (go_at_call 55; refine HCh.out.mono ?_; rintro e w5 (⟨y, h1, _⟩ | ⟨_, rfl, h1, g5⟩); cases h1; have y := held3n (by with_reducible assumption) g5))
      all_goals
        have b5 := b4.trans (y.2.2.2.2.mono (by omega))
        go_wp2_with fail
        go_ret2
        exact ⟨none, 0, rfl, .inl rfl, b5, fun _ => rfl, Nat.le_refl _⟩
    · rw [hto] at HCh
      have hyk : y.p = p := (turnT_key hto).trans (by have := HBE.out; rw [hx] at this; exact this)
      have hps : l.set i y = putR trKey l y := by
        refine putR_set trKey tr0 ?_ hil ?_
        · rw [show trKey y = p from hyk]; exact HAt.out
        · rw [show trKey y = p from hyk]; exact HBE.out
      have HPS := Lib.hid hps
      clear hto hx hps
      go_wp2_with fail
      go_region_held3 (fun w' => w'.cell? ⟨w.heap.size, 0, none⟩ = some (.int .i64 k) ∧ w'.cell? ⟨w.heap.size, 1, none⟩ = some (.int .i64 p) ∧ w'.cell? ⟨w.heap.size, 2, none⟩ = some (.int .i64 m) ∧ w.heap.size < w2.heap.size ∧ Below w2.heap.size w4 w')
        (with_reducible assumption)
        (first | (go_at_call 55; refine HCh.out.mono ?_; rintro e w5 (⟨y', h1, rfl, h3, g5⟩ | ⟨h1, _⟩); rotate_left; cases h1; have y9 := held3n (by with_reducible assumption) g5))
      injection h1 with h1
      subst h1
      have b5 := b4.trans (y9.2.2.2.2.mono (by omega))
      have hzs : i < (l.set i y).length := by simpa using hil
      obtain ⟨_, hgw5, _, _, t1, _, _, _⟩ := TRow.cells h3 (by omega) i hzs
      rw [tr_set hil] at t1
      have HR5 := Lib.hid h3
      have hlen := Lib.hid (show (putR trKey l y).length = N by rw [← HPS.out, List.length_set, HNe.out])
      clear h3 y9 hS0
      obtain ⟨yp, ye, ys, ym, yl⟩ := y
      simp only at t1 hD hyk
      rcases hD with ⟨hye, rfl, rfl⟩ | ⟨hye, rfl, rfl⟩
      · go_wp2_with fail
        go_ret2
        exact ⟨none, 0, rfl, .inl rfl, b5, fun _ => rfl, Nat.le_refl _⟩
      · go_wp2_with fail
        go_ret2
        exact ⟨some ⟨g, 0, none⟩, c3, by rw [hlen.out]; rfl, by have := ownN_sl HR5.out; rw [HPS.out] at this; exact this, b5, (fun h => by cases h), by rw [hlen.out]; exact (ownN_cap HR5.out).2⟩
  | false =>
    have hno : ¬ (i < N ∧ trKey (l.getD i tr0) = p) := fun h => by have := hf.2 h; cases this
    clear hf
    have hno' : ¬ (i < l.length ∧ trKey (l.getD i tr0) = p) := by rw [HNe.out]; exact hno
    have hgx := getR_at_none trKey tr0 HAt.out (rightT_asc HG.out.2) hno'
    have hD : (¬ k = 1 ∧ D = [] ∧ E = 3) ∨ (k = 1 ∧ D = putR trKey l ⟨p, 1, 1, 0, 0⟩ ∧ E = 0) := by
      rcases HT.out with ⟨h1, _⟩ | ⟨_, _, h1⟩ | ⟨_, y, h1, h2⟩
      · exact absurd HG.out h1
      · exact h1
      · rw [hgx] at h1; cases h1
    clear hgx hno
    rcases hD with ⟨hk1, rfl, rfl⟩ | ⟨rfl, hDe, rfl⟩
    · have hb1 : (k != 1) = true := by simp [hk1]
      clear hno'
      go_wp2_with fail
      go_ret2
      exact ⟨none, 0, rfl, .inl rfl, b4, fun _ => rfl, Nat.le_refl _⟩
    · have hins : ins_tr l i ⟨p, 1, 1, 0, 0⟩ = putR trKey l ⟨p, 1, 1, 0, 0⟩ := (putR_new trKey tr0 (x := (⟨p, 1, 1, 0, 0⟩ : Tr)) HAt.out hno').symm
      have hlen := Lib.hid (show D.length = N + 1 by rw [hDe, ← hins]; unfold ins_tr; rw [insR_length hi, HNe.out])
      have halv := balloc w4 (.cells #[.int .i64 p, .int .i64 1, .int .i64 1, .int .i64 0, .int .i64 0] 52)
      have hv := heap_alloc_new w4 (.cells #[.int .i64 p, .int .i64 1, .int .i64 1, .int .i64 0, .int .i64 0] 52)
      have hne : (Value.slice a3 N c3).ownBlock ≠ some w4.heap.size := fun h => by have := (own4.lt _ h).2; omega
      have HI := Lib.hid (insert_tr l N a3 c3 w2.heap.size i ⟨p, 1, 1, 0, 0⟩ _ w4.heap.size HNe.out (by omega) (by have := HNe.out; omega) (own_keep own4 halv) hv hne (Nat.le_trans (by omega) halv.size))
      have HIN := Lib.hid (show ins_tr l i ⟨p, 1, 1, 0, 0⟩ = D by rw [hDe, hins])
      have b5 := b4.trans (halv.mono (by omega))
      have hz5 := halv.size
      unfold IPost_tr at HI
      clear hno' hne hv halv own4 hins hDe
      go_wp2_with fail
      refine HI.out.mono ?_
      rintro e w5 ⟨a5, c5, rfl, own5, g5⟩
      have b6 := b5.trans (g5.mono (by omega))
      have HO := Lib.hid own5
      clear own5 g5
      go_wp2_with fail
      go_ret2
      exact ⟨a5, c5, by rw [hlen.out]; rfl, by have := ownN_sl HO.out; rw [HIN.out] at this; exact this, b6, (ownN_cap HO.out).1, by rw [hlen.out]; exact (ownN_cap HO.out).2⟩
theorem tfold_walk (l : List Tr) (N : Nat) (a : Option Addr) (c B : Nat) (k p m : Int) (w : World) (D : List Tr) (E : Int) (hN : l.length = N) (hNm : N ≤ maxLen) (hT : FdIs l k p m D E) (h : Sl w B a (trCells l)) (hB : B ≤ w.heap.size) :
    Calls Try.prog 26 #[.slice a N c, .agg #[.int .i64 k, .int .i64 p, .int .i64 m]] w (FdPost w D E) := by
  by_cases hg : MayN k p m ∧ RightT l
  · exact tfold_yes l N a c B k p m w D E hN hNm hg hT h hB
  · obtain ⟨rfl, rfl⟩ : D = [] ∧ E = 1 := by
      rcases hT with ⟨_, h2⟩ | ⟨h1, _⟩ | ⟨h1, _⟩
      · exact h2
      all_goals exact absurd h1 hg
    exact tfold_bad l N a c B k p m w hN hNm hg h hB
end Go.Proofs.Ytfjnmjibifefgaa
