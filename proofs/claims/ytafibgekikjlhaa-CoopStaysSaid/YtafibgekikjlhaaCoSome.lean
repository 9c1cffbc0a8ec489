/- The walks of headgatelaw35.some, aimed and does. -/
import Derived.Test.YtafibgekikjlhaaCoLaw
import Derived.Test.YtafibgekikjlhaaCdOpen
import Derived.Laws.Rows
import Derived.Deep.Cut
namespace Go.Proofs.Ytafibgekikjlhaa
open Go.RowKit Vm As
set_option linter.unusedVariables false
set_option linter.unusedSimpArgs false

theorem Whole.five {w : World} {g : Nat} {t : TypeId} {a b c d e : Value} (h : Whole w g t #[a, b, c, d, e]) : w.cell? ⟨g, 0, none⟩ = some a ∧ w.cell? ⟨g, 1, none⟩ = some b ∧ w.cell? ⟨g, 2, none⟩ = some c ∧ w.cell? ⟨g, 3, none⟩ = some d ∧ w.cell? ⟨g, 4, none⟩ = some e ∧ (w.frozen? ⟨g, 0, none⟩ = false ∧ w.frozen? ⟨g, 1, none⟩ = false ∧ w.frozen? ⟨g, 2, none⟩ = false ∧ w.frozen? ⟨g, 3, none⟩ = false ∧ w.frozen? ⟨g, 4, none⟩ = false) ∧ g < w.heap.size :=
  ⟨h.cell 0, h.cell 1, h.cell 2, h.cell 3, h.cell 4, ⟨h.frozen 0, h.frozen 1, h.frozen 2, h.frozen 3, h.frozen 4⟩, h.lt⟩
theorem st5 {w : World} {A : Nat} {t : TypeId} {a b c d e : Value} (h : Whole w A t #[a, b, c, d, e]) (x y z u v : Value) :
    Whole (((((w.setCell ⟨A, 0, none⟩ x).setCell ⟨A, 1, none⟩ y).setCell ⟨A, 2, none⟩ z).setCell ⟨A, 3, none⟩ u).setCell ⟨A, 4, none⟩ v) A t #[x, y, z, u, v] ∧
      ∀ C, C ≤ A → Below C w (((((w.setCell ⟨A, 0, none⟩ x).setCell ⟨A, 1, none⟩ y).setCell ⟨A, 2, none⟩ z).setCell ⟨A, 3, none⟩ u).setCell ⟨A, 4, none⟩ v) := by
  refine ⟨?_, fun C hC => (((((Below.refl C w).setCell (p := ⟨A, 0, none⟩) hC x).setCell (p := ⟨A, 1, none⟩) hC y).setCell (p := ⟨A, 2, none⟩) hC z).setCell (p := ⟨A, 3, none⟩) hC u).setCell (p := ⟨A, 4, none⟩) hC v⟩
  have h3 := ((((h.set 0 x).set 1 y).set 2 z).set 3 u).set 4 v
  simpa using h3
def cut12 (x : Cd) : Cd := { x with l := x.l.take 12 }
def someL (l : List Cd) : List Cd := (l.take 100).map cut12
theorem some_snoc (l : List Cd) (k : Nat) (h : k < l.length) : (l.take (k + 1)).map cut12 = (l.take k).map cut12 ++ [cut12 (l.getD k cd0)] := by
  rw [take_get l cd0 k h]; simp
theorem cdOf_one (y : Cd) : ∀ v ∈ cdOf y, v.oneCell' = true := fun v hv => by simp [cdOf] at hv; rcases hv with rfl | rfl | rfl | rfl | rfl <;> rfl
def SomePost (L : List Cd) (w : World) (e : Ending) (w' : World) : Prop := ∃ a' c', e = .returned (.slice a' L.length c') ∧ w'.ownsRow w.heap.size 41 5 (.slice a' L.length c') L.length (cdCells L) ∧ Below w.heap.size w w'
theorem some_fin {L : List Cd} {N : Nat} (h : L.length = N) (hN : N ≤ 100) : (L.take N).map cut12 = someL L ∧ (someL L).length = N := by
  subst h
  unfold someL
  rw [List.take_of_length_le (Nat.le_refl _), List.take_of_length_le hN]
  simp
set_option maxRecDepth 100000 in
set_option maxHeartbeats 8000000 in
theorem some35_walk (l : List Cd) (n : Nat) (a : Option Addr) (c : Nat) (w : World) (hn : l.length = n) (hnm : n ≤ 9223372036854775807) (hnc : n ≤ c) (hs : Sl w w.heap.size a (cdCells l)) (hci : ∀ r ∈ l, CdI w r) :
    Calls Try.prog 17 #[.slice a n c] w (SomePost (someL l) w) := by
  obtain ⟨i0, hi, hz0, hz1, hz2⟩ := info_parts info_cd
  obtain ⟨L, hL⟩ : ∃ L, l.take 100 = L := ⟨_, rfl⟩
  have hLs : someL L = someL l := by unfold someL; rw [← hL, List.take_take, Nat.min_self]
  have hSl : Sl w w.heap.size a (cdCells L) := by
    rw [← hL]
    rcases hs with h | ⟨b, off, e, hlt, hc⟩
    · have hl0 : l = [] := by have := congrArg List.length h; rw [cdCells_length, List.length_nil] at this; exact List.eq_nil_of_length_eq_zero (by omega)
      exact .inl (by rw [hl0]; rfl)
    · refine .inr ⟨b, off, e, hlt, fun j u hu => hc j u ?_⟩
      unfold cdCells at hu ⊢
      rw [recs_take cdOf 5 cdOf_len, List.getElem?_take] at hu
      split at hu
      · exact hu
      · cases hu
  have hCI : ∀ r ∈ L, CdI w r := fun r hr => hci r (List.mem_of_mem_take (by rw [hL]; exact hr))
  obtain ⟨N, hN⟩ : ∃ N, L.length = N := ⟨_, rfl⟩
  have hN2 : N = min 100 n := by rw [← hN, ← hL, List.length_take, hn]
  have HN := Lib.hid hN
  have HS := Lib.hid hSl
  have HC := Lib.hid hCI
  have HF := Lib.hid (some_fin hN (by omega))
  rw [← hLs]
  clear hs hci hL hLs hSl hCI hN hn
  go_enter Try.func17, Try.ntmps17
  go_upto_if 8 with fail
  go_cut [0] from 9 to 10 (fun v wx => v = .slice a N c ∧ wx = w)
  case first =>
    by_cases h : (100 : Int) < (n : Int)
    · have e : N = 100 := by omega
      have hc2 : (100 : Int) ≤ (c : Int) := by omega
      subst e
      clear hN2
      go_wp2_with fail
      go_meet
      exact ⟨rfl, rfl⟩
    · have e : N = n := by omega
      subst e
      clear hN2
      go_wp2_with fail
      go_meet
      exact ⟨rfl, rfl⟩
  case rest =>
    obtain ⟨hv, hw⟩ := hcut
    subst hv
    subst hw
    obtain ⟨w, hww⟩ : ∃ w, w = wc := ⟨_, rfl⟩
    have hN3 : N ≤ 100 := by omega
    have hNc : N ≤ c := by omega
    clear hN2 hnm hnc
    subst hww
    go_wp2_with fail
    go_loopw [3, 4] (fun R I wr => ∃ k : Nat, k ≤ N ∧ I = .int .i64 k ∧ wr.ownsRow w.heap.size 41 5 R k (cdCells ((L.take k).map cut12)) ∧ Below w.heap.size w wr) (fun _ I _ => N - (intOf I).toNat)
    case atStart => exact ⟨0, by omega, rfl, by simpa [cdCells] using World.ownsRow_nil _ _ _ _, Below.refl _ _⟩
    case round =>
      obtain ⟨k, hk, rfl, hown, hb⟩ := hrel
      by_cases hlt : k < N
      · have hil : k < L.length := by rw [HN.out]; exact hlt
        have hlt2 : (k : Int) < (N : Int) := by omega
        have hk0 : 0 ≤ (k : Int) := by omega
        obtain ⟨b1, o1, rfl, hb1, hc1⟩ := (HS.out.below hb (Nat.le_refl _)).cd (by omega)
        obtain ⟨r0, r1, r2, r3, r4⟩ := hc1 k hil
        have HSn := Lib.hid (some_snoc L k hil)
        obtain ⟨aR, cR, rfl⟩ := ownN_shape hown
        have hlow := Lib.hid (fun x hx => (own_low hown x hx).2)
        have hci := HC.out _ (getD_mem L cd0 k hil)
        obtain ⟨x, hx⟩ : ∃ x, L.getD k cd0 = x := ⟨_, rfl⟩
        rw [hx] at r0 r1 r2 r3 r4 hci
        have HX := Lib.hid hx
        obtain ⟨q, hq⟩ : ∃ q, x.l.length = q := ⟨_, rfl⟩
        rw [hq] at r4
        have hqc : q ≤ x.c := by have := hci.2.2.2.2.1; omega
        have hqm : x.c ≤ maxLen := hci.2.2.2.2.2
        have HQ := Lib.hid hq
        have hal := balloc wr (.cells #[.int .i64 x.k, .int .i64 x.m, .int .i64 x.p, .bool x.n, .slice x.a q x.c] 41)
        have V1 := Whole.new wr 41 #[.int .i64 x.k, .int .i64 x.m, .int .i64 x.p, .bool x.n, .slice x.a q x.c]
        have own1 := own_keep hown hal
        have b2 := gtrans hb hal
        have hbz := hb.size
        clear hc1 hci hx hq
        go_upto_region 8 with fail
        obtain ⟨w2, hw2⟩ : ∃ w2, w2 = wr.alloc (.cells #[.int .i64 x.k, .int .i64 x.m, .int .i64 x.p, .bool x.n, .slice x.a q x.c] 41) := ⟨_, rfl⟩
        rw [← hw2] at hal V1 own1 b2 ⊢
        clear hw2 r0 r1 r2 r3 r4 hown hb hal
        obtain ⟨v0, v1, v2, v3, v4, ⟨f0, f1, f2, f3, f4⟩, hvl⟩ := V1.five
        by_cases hq12 : (12 : Int) < (q : Int)
        · have hc12 : (12 : Int) ≤ (x.c : Int) := by omega
          have V2 := V1.set 4 (.slice x.a 12 x.c)
          simp only [List.setIfInBounds_toArray, List.set_cons_zero, List.set_cons_succ] at V2
          have own2 := own_set own1 (g := wr.heap.size) (fun y hy e => by have := hlow.out y hy; omega) 4 (.slice x.a 12 x.c)
          have b3 := b2.setCell (p := ⟨wr.heap.size, 4, none⟩) hbz (.slice x.a 12 x.c)
          go_upto_region 10 with fail
          obtain ⟨w3, hw3⟩ : ∃ w3, w3 = w2.setCell ⟨wr.heap.size, 4, none⟩ (.slice x.a 12 x.c) := ⟨_, rfl⟩
          rw [← hw3] at V2 own2 b3 ⊢
          clear hw3 v0 v1 v2 v3 v4 f0 f1 f2 f3 f4 hvl own1 b2 V1
          obtain ⟨v0, v1, v2, v3, v4, hff, hvl⟩ := V2.five
          clear hff V2
          go_wp2_with (at_builtin; refine wpList_append_own _ rfl _ _ 32 rfl w.heap.size 41 i0 (.agg #[.int .i64 0, .int .i64 0, .int .i64 0, .bool false, .slice none 0 0]) 5 56 Try.underlying32 hi hz0 hz1 hz2 rfl (by decide) _ _ _ rfl (own2.alloc _) ⟨w3.heap.size, 0, none⟩ 1 1 [.int .i64 x.k, .int .i64 x.m, .int .i64 x.p, .bool x.n, .slice x.a 12 x.c] rfl rfl ?c1 ?c2 ?c3 ?c4 ?c5 ?_)
          case c1 =>
            intro j u hj
            match j, hj with
            | 0, hj => simp at hj; subst hj; simp [Addr.add]
            | 1, hj => simp at hj; subst hj; simp [Addr.add]
            | 2, hj => simp at hj; subst hj; simp [Addr.add]
            | 3, hj => simp at hj; subst hj; simp [Addr.add]
            | 4, hj => simp at hj; subst hj; simp [Addr.add]
          case c2 => intro u hu; simp at hu; rcases hu with rfl | rfl | rfl | rfl | rfl <;> rfl
          case c3 => unfold maxLen; omega
          case c4 => omega
          case c5 => exact Nat.le_trans b3.size (by simp)
          intro v' w5 hown' hgrow _
          have hb5 := (b3.alloc b3.size _).grown hgrow (by have := b3.size; simp; omega) (fun k hk => (own2.lt k hk).1)
          have hown5 : w5.ownsRow w.heap.size 41 5 v' (k + 1) (cdCells ((L.take (k + 1)).map cut12)) := by
            rw [HSn.out, cdCells_snoc]
            have e1 : [Value.int .i64 (cut12 (L.getD k cd0)).k, .int .i64 (cut12 (L.getD k cd0)).m, .int .i64 (cut12 (L.getD k cd0)).p, .bool (cut12 (L.getD k cd0)).n, .slice (cut12 (L.getD k cd0)).a (cut12 (L.getD k cd0)).l.length (cut12 (L.getD k cd0)).c] = [.int .i64 x.k, .int .i64 x.m, .int .i64 x.p, .bool x.n, .slice x.a 12 x.c] := by
              rw [HX.out]
              unfold cut12
              simp only [List.length_take]
              rw [HQ.out, show min 12 q = 12 from by omega]
            rw [e1, List.map_take]
            exact hown'
          clear hown' hgrow own2 b3
          go_wp2_with fail
          go_roundw
          case rel => exact ⟨k + 1, by omega, by go_num, hown5, hb5⟩
          case measure => simp [intOf]; omega
        · clear f0 f1 f2 f3 f4 V1
          go_wp2_with (at_builtin; refine wpList_append_own _ rfl _ _ 32 rfl w.heap.size 41 i0 (.agg #[.int .i64 0, .int .i64 0, .int .i64 0, .bool false, .slice none 0 0]) 5 56 Try.underlying32 hi hz0 hz1 hz2 rfl (by decide) _ _ _ rfl (own1.alloc _) ⟨w2.heap.size, 0, none⟩ 1 1 [.int .i64 x.k, .int .i64 x.m, .int .i64 x.p, .bool x.n, .slice x.a q x.c] rfl rfl ?c1 ?c2 ?c3 ?c4 ?c5 ?_)
          case c2 => exact ⟨rfl, rfl, rfl, rfl, rfl⟩
          case c3 => unfold maxLen; omega
          case c4 => omega
          case c5 => exact Nat.le_trans b2.size (by simp)
          intro v' w5 hown' hgrow _
          have hb5 := (b2.alloc b2.size _).grown hgrow (by have := b2.size; simp; omega) (fun k hk => (own1.lt k hk).1)
          have hown5 : w5.ownsRow w.heap.size 41 5 v' (k + 1) (cdCells ((L.take (k + 1)).map cut12)) := by
            rw [HSn.out, cdCells_snoc]
            have e1 : [Value.int .i64 (cut12 (L.getD k cd0)).k, .int .i64 (cut12 (L.getD k cd0)).m, .int .i64 (cut12 (L.getD k cd0)).p, .bool (cut12 (L.getD k cd0)).n, .slice (cut12 (L.getD k cd0)).a (cut12 (L.getD k cd0)).l.length (cut12 (L.getD k cd0)).c] = [.int .i64 x.k, .int .i64 x.m, .int .i64 x.p, .bool x.n, .slice x.a q x.c] := by
              rw [HX.out]
              unfold cut12
              simp only [List.length_take]
              rw [HQ.out, show min 12 q = q from by omega]
            rw [e1, List.map_take]
            exact hown'
          clear hown' hgrow own1 b2
          go_wp2_with fail
          go_roundw
          case rel => exact ⟨k + 1, by omega, by go_num, hown5, hb5⟩
          case measure => simp [intOf]; omega
      · obtain rfl : k = N := by omega
        obtain ⟨a6, c6, rfl⟩ := ownN_shape hown
        rw [HF.out.1] at hown
        have HO := Lib.hid hown
        clear hown
        go_wp2_with fail
        go_ret
        exact ⟨a6, c6, by rw [HF.out.2]; rfl, by rw [HF.out.2]; exact HO.out, hb⟩
end Go.Proofs.Ytafibgekikjlhaa
