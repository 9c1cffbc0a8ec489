/- The walk of coop.Join. -/
import Derived.Test.YtafibgekikjlhaaCoJoin
namespace Go.Proofs.Ytafibgekikjlhaa
open Go.RowKit Vm As
open Go.Sort (Holds)
set_option linter.unusedVariables false
set_option linter.unusedSimpArgs false

theorem joinTo_stay {C : Co} {l : List Int} {i : Nat} (h : joinTo C l i ≠ 0) : ∀ j, i ≤ j → joinTo C l j = joinTo C l i := by
  intro j
  induction j with
  | zero => intro hj; rw [show i = 0 by omega]
  | succ j ih =>
    intro hj
    rcases Nat.lt_or_ge i (j + 1) with h1 | h1
    · have e := ih (by omega)
      show (if joinTo C l j ≠ 0 then joinTo C l j else _) = _
      rw [if_pos (by rw [e]; exact h), e]
    · rw [show i = j + 1 by omega]
theorem joinE_stop {C : Co} {l : List Int} {k : Nat} {E : Int} (h0 : joinTo C l k = 0) (hk : k < l.length) (hE : joinTo C l (k + 1) = E) (hne : E ≠ 0) : joinE C l = E := by
  have e := joinTo_stay (C := C) (l := l) (i := k + 1) (by rw [hE]; exact hne) l.length hk
  unfold joinE
  rw [if_neg (by omega), e, hE, if_pos hne]
theorem joinTo_bad {C : Co} {l : List Int} {k : Nat} (h0 : joinTo C l k = 0) (hb : joinTo.badM' (l.getD k 0) = true) : joinTo C l (k + 1) = 1 := by
  show (if joinTo C l k ≠ 0 then _ else _) = _
  rw [if_neg (by omega), if_pos hb]
theorem joinTo_old {C : Co} {l : List Int} {k : Nat} (h0 : joinTo C l k = 0) (hb : joinTo.badM' (l.getD k 0) = false) (h : C.M.contains (l.getD k 0) = true ∨ (l.take k).contains (l.getD k 0) = true) : joinTo C l (k + 1) = 9 := by
  show (if joinTo C l k ≠ 0 then _ else _) = _
  rw [if_neg (by omega), if_neg (by rw [hb]; decide), if_pos h]
theorem joinTo_good {C : Co} {l : List Int} {k : Nat} (h0 : joinTo C l k = 0) (hb : joinTo.badM' (l.getD k 0) = false) (h : C.M.contains (l.getD k 0) = false) (h2 : (l.take k).contains (l.getD k 0) = false) : joinTo C l (k + 1) = 0 := by
  show (if joinTo C l k ≠ 0 then _ else _) = _
  rw [if_neg (by omega), if_neg (by rw [hb]; decide), if_neg (by rw [h, h2]; decide)]
theorem joinE_none {C : Co} {l : List Int} (h : l.length = 0) : joinE C l = 1 := by unfold joinE; rw [if_pos h]
theorem joinE_full {C : Co} {l : List Int} (h0 : l.length ≠ 0) (h : joinTo C l l.length = 0) (hf : 8 < C.M.length + l.length) : joinE C l = 5 := by
  unfold joinE; rw [if_neg h0, if_neg (by omega), if_pos hf]
theorem joinE_good {C : Co} {l : List Int} (h0 : l.length ≠ 0) (h : joinTo C l l.length = 0) (hf : ¬ 8 < C.M.length + l.length) : joinE C l = 0 := by
  unfold joinE; rw [if_neg h0, if_neg (by omega), if_neg hf]
theorem sl_takeI {w : World} {B : Nat} {a : Option Addr} {l : List Int} (k : Nat) (h : Sl w B a (i64s l)) : Sl w B a (i64s (l.take k)) := by
  rcases h with h | ⟨b, off, e, hlt, hc⟩
  · have : l = [] := by have := congrArg List.length h; rw [i64s_len] at this; exact List.eq_nil_of_length_eq_zero this
    exact .inl (by rw [this]; simp [i64s])
  · refine .inr ⟨b, off, e, hlt, fun j u hu => hc j u ?_⟩
    unfold i64s at hu ⊢
    rw [List.map_take, List.getElem?_take] at hu
    split at hu
    · exact hu
    · cases hu
set_option maxRecDepth 100000 in
theorem sort_c (l : List Int) (n g c : Nat) (w : World) (hn : l.length = n) (hs : n ≤ 1000) (h0 : 0 < n) (h : w.ownsRow 0 3 1 (.slice (some ⟨g, 0, none⟩) n c) n (i64s l)) :
    Calls Try.prog 41 #[.slice (some ⟨g, 0, none⟩) n c] w fun e w' => e = .returned (.tuple #[]) ∧ w'.ownsRow 0 3 1 (.slice (some ⟨g, 0, none⟩) n c) n (i64s (sortL l)) ∧ w.grownBy w' (some g) := by
  rcases h.2 with ⟨h1, _⟩ | ⟨g', cap, cur, hv, hg, hh, hc1, hc2, hc3, hc4⟩
  · injection h1 with h1; cases h1
  · injection hv with h1 h2 h3
    injection h1 with h1
    injection h1 with h1 _ _
    subst h1 h3
    have hgl : g < w.heap.size := by
      apply Classical.byContradiction
      intro hc
      rw [Array.getElem?_eq_none (by omega)] at hh
      cases hh
    have hH : Holds (Value.int .i64) w g 0 l.toArray := holds_of_blockI hh (by rw [hn]; rw [Nat.mul_one] at hc4; exact hc4)
    have K := Try.slices_Sort_int g 0 c l w hH hgl (by omega)
    rw [hn] at K
    refine K.mono ?_
    rintro e w' ⟨rfl, q, os, rfl⟩
    refine ⟨rfl, ?_, grownBy_sortedI _⟩
    have := ownsRow_sortedI (w := w) (base := 0) (g := g) (cap := c) (n := q) (e := 3) (os := os) (cur := cur) (ss := l) (ts := sortL l) (sortL_len l) (Nat.zero_le _) hh (by omega) hc2 hc3
    rw [hn] at this
    exact this
def LApt (w : World) (S : Nat → Prop) (l : List Int) (N : Nat) (a : Option Addr) (c : Nat) : Prop := l.length = N ∧ N ≤ 1000 ∧ N ≤ c ∧ Sl w w.heap.size a (i64s l)
theorem cjoin_nil (N : Nat) (al : Option Addr) (cl : Nat) (w : World) : Calls Try.prog 19 #[.pointer none, .slice al N cl] w fun e w' => e = .returned (.int .i64 1) ∧ w' = w := by
  go_enter Try.func19, Try.ntmps19
  go_wp2_with fail
  go_ret
  exact ⟨rfl, rfl⟩
set_option maxRecDepth 100000 in
set_option maxHeartbeats 8000000 in
theorem cjoin_walk (K : Nat) (l : List Int) (N : Nat) (al : Option Addr) (cl : Nat) (C : Co) (g : Nat) (a : Option Addr) (ca : Nat) (b : Option Addr) (cb : Nat) (d : Option Addr) (cd : Nat) (w : World) (hK : K ≤ 800) (hok : COk C K) (hl : LApt w (CF g a b d) l N al cl) (h : CoW w g C a ca b cb d cd) :
    Calls Try.prog 19 #[.pointer (some ⟨g, 0, none⟩), .slice al N cl] w (CoP g a b d (joinC C l) (.int .i64 (joinE C l)) w) := by
  obtain ⟨i0, hi, hz0, hz1, hz2⟩ := info_parts info_i64
  obtain ⟨hlN, hNm, hNc, hSl⟩ := hl
  have HLN := Lib.hid hlN
  have HS := Lib.hid hSl
  have hml := hok.b.ml
  have HOK := Lib.hid hok
  have HSame := Lib.hid (fun E => CoP.same (w' := w) E h (Below.refl _ _))
  have KI := Lib.hid (fun x => is_walk x C g a ca b cb d cd w (by omega) h)
  have HC := Lib.hid h
  have hgl := h.lt
  obtain ⟨m0, m1, m2, m3, hfz⟩ := h.four
  have f1 := hfz 1
  have HEj := Lib.hid (show ∀ E, joinE C l = E → E ≠ 0 → joinC C l = C from fun E h1 h2 => by unfold joinC; rw [if_neg (by rw [h1]; exact h2)])
  clear hok hlN hSl h hfz m0 m2 m3
  rcases Nat.eq_zero_or_pos N with h0 | h0
  · subst h0
    rw [HEj.out 1 (joinE_none HLN.out) (by decide), joinE_none HLN.out]
    go_enter Try.func19, Try.ntmps19
    go_wp2_with fail
    go_ret
    exact HSame.out _
  · have gN : ((N : Int) == 0) = false := beq_eq_false_iff_ne.2 (by omega)
    go_enter Try.func19, Try.ntmps19
    go_wp2_with fail
    go_loopw [16] (fun I wr => ∃ k : Nat, k ≤ N ∧ I = .int .i64 k ∧ Hid (joinTo C l k = 0) ∧ wr = w) (fun I _ => N - (intOf I).toNat)
    case atStart => exact ⟨0, by omega, rfl, Lib.hid rfl, rfl⟩
    case round =>
      obtain ⟨k, hk, rfl, HJ, hwr⟩ := hrel
      subst hwr
      by_cases hlt : k < N
      · have hlt2 : (k : Int) < (N : Int) := by omega
        have hk0 : 0 ≤ (k : Int) := by omega
        have hil : k < l.length := by rw [HLN.out]; exact hlt
        obtain ⟨b1, o1, rfl, hb1, hc1⟩ := HS.out.ints (by omega)
        have r0 := hc1 k hil
        obtain ⟨x, hx⟩ : ∃ x, l.getD k 0 = x := ⟨_, rfl⟩
        rw [hx] at r0
        have HX := Lib.hid hx
        have hIL := Lib.hid hil
        clear hc1 hx hil
        rcases (show x < 1 ∨ (¬ x < 1 ∧ 1099511627776 < x) ∨ (¬ x < 1 ∧ ¬ 1099511627776 < x) by omega) with h1 | ⟨h1, h2⟩ | ⟨h1, h2⟩
        · have HB := Lib.hid (joinE_stop HJ.out hIL.out (joinTo_bad HJ.out (by rw [HX.out]; unfold joinTo.badM'; simp; omega)) (by decide))
          go_wp2_with fail
          go_ret
          rw [HEj.out 1 HB.out (by decide), HB.out]
          exact HSame.out _
        · have HB := Lib.hid (joinE_stop HJ.out hIL.out (joinTo_bad HJ.out (by rw [HX.out]; unfold joinTo.badM'; simp; omega)) (by decide))
          go_wp2_with fail
          go_ret
          rw [HEj.out 1 HB.out (by decide), HB.out]
          exact HSame.out _
        · have HG0 := Lib.hid (show joinTo.badM' (l.getD k 0) = false by rw [HX.out]; unfold joinTo.badM'; simp; omega)
          have KI1 := Lib.hid (KI.out x)
          cases hr : C.M.contains x with
          | true =>
            rw [hr] at KI1
            have HB := Lib.hid (joinE_stop HJ.out hIL.out (joinTo_old HJ.out HG0.out (.inl (by rw [HX.out]; exact hr))) (by decide))
            clear hr
            go_wp2_with fail
            refine KI1.out.mono ?_
            rintro e w2 ⟨rfl, hw⟩
            subst hw
            go_wp2_with fail
            go_ret
            rw [HEj.out 9 HB.out (by decide), HB.out]
            exact HSame.out _
          | false =>
            rw [hr] at KI1
            have HR := Lib.hid hr
            have hkc : (k : Int) ≤ (cl : Int) := by omega
            have hkc2 : k ≤ cl := by omega
            have KC := Lib.hid (contains_walk (l.take k) k x (some ⟨b1, o1, none⟩) cl wr.heap.size wr (by rw [List.length_take]; have := hIL.out; omega) (by omega) (sl_takeI k HS.out) (Nat.le_refl _))
            cases hs : (l.take k).contains x with
            | true =>
              rw [hs] at KC
              have HB := Lib.hid (joinE_stop HJ.out hIL.out (joinTo_old HJ.out HG0.out (.inr (by rw [HX.out]; exact hs))) (by decide))
              clear hs hr
              go_wp2_with fail
              refine KI1.out.mono ?_
              rintro e w2 ⟨rfl, hw⟩
              subst hw
              clear KI1
              go_wp2_with fail
              refine KC.out.mono ?_
              rintro e w2 ⟨rfl, hw⟩
              subst hw
              go_wp2_with fail
              go_ret
              rw [HEj.out 9 HB.out (by decide), HB.out]
              exact HSame.out _
            | false =>
              rw [hs] at KC
              have HB := Lib.hid (joinTo_good HJ.out HG0.out (by rw [HX.out]; exact hr) (by rw [HX.out]; exact hs))
              clear hs hr
              go_wp2_with fail
              refine KI1.out.mono ?_
              rintro e w2 ⟨rfl, hw⟩
              subst hw
              clear KI1
              go_wp2_with fail
              refine KC.out.mono ?_
              rintro e w2 ⟨rfl, hw⟩
              subst hw
              go_wp2_with fail
              go_roundw
              case rel => exact ⟨k + 1, by omega, by go_num, HB, trivial⟩
              case measure => simp [intOf]; omega
      · obtain rfl : k = N := by omega
        have HJ2 := Lib.hid (show joinTo C l l.length = 0 by rw [HLN.out]; exact HJ.out)
        have HN0 := Lib.hid (show l.length ≠ 0 by rw [HLN.out]; omega)
        have hal : ∃ ad, al = some ad := by
          obtain ⟨b1, o1, rfl, _, _⟩ := HS.out.ints (by rw [HLN.out]; exact h0)
          exact ⟨_, rfl⟩
        obtain ⟨ad, rfl⟩ := hal
        obtain ⟨n, hn⟩ : ∃ n, C.M.length = n := ⟨_, rfl⟩
        rw [hn] at m1 hml
        have HNn := Lib.hid hn
        have hsum : IntKind.i64.wrap ((n : Int) + (k : Int)) = (n : Int) + (k : Int) := IntWalk.i64_in _ (by omega)
        clear hn
        by_cases hf : 8 < n + k
        · have HB := Lib.hid (joinE_full HN0.out HJ2.out (by rw [HNn.out, HLN.out]; exact hf))
          have g1 : (8 : Int) < (n : Int) + (k : Int) := by omega
          clear hf
          go_wp2_with fail
          go_ret
          rw [HEj.out 5 HB.out (by decide), HB.out]
          exact HSame.out _
        · have HB := Lib.hid (joinE_good HN0.out HJ2.out (by rw [HNn.out, HLN.out]; exact hf))
          have g1 : ¬ (8 : Int) < (n : Int) + (k : Int) := by omega
          have HJC := Lib.hid (show joinC C l = begC (addM C l) from by unfold joinC; rw [if_pos HB.out]; rfl)
          have HBO := Lib.hid (addM_ok HOK.out.b (joinOk HB.out))
          have hrow := HC.out.rowM
          rw [HNn.out] at hrow
          have hnews := Lib.hid (show ∀ j u, (i64s l)[j]? = some u → wr.cell? (ad.add j) = some u from fun j u hu => by
            rcases HS.out with h2 | ⟨b, off, e1, _, hc⟩
            · rw [h2] at hu; cases hu
            · injection e1 with e1
              subst e1
              rw [add_at]; exact hc j u hu)
          have HMl := Lib.hid (show (C.M ++ l).length = n + k by rw [List.length_append, HNn.out, HLN.out])
          clear KI HSame HEj hf
          go_wp2_with (at_builtin; refine wpList_append_own_at _ rfl _ _ 22 rfl 0 3 i0 (.int .i64 0) 1 8 Try.underlying22 hi hz0 hz1 hz2 rfl (by decide) _ n _ rfl hrow ad k cl (i64s l) rfl ?c1 ?c2 ?c3 ?c4 ?c5 ?c6 ?_)
          case c1 => rw [i64s_len, HLN.out]
          case c2 => exact hnews.out
          case c3 => intro u hu; unfold i64s at hu; obtain ⟨y, _, rfl⟩ := List.mem_map.1 hu; rfl
          case c4 => unfold maxLen; omega
          case c5 => omega
          intro v' w2 hown' hgrow _ hat
          obtain ⟨a2, c2, rfl⟩ := ownN_shape hown'
          rw [show i64s C.M ++ i64s l = i64s (C.M ++ l) from by simp [i64s]] at hown'
          obtain ⟨gm, rfl, _, hgm, _, _⟩ := ownN_at hown' (by omega)
          have hkey : ∀ k, k < wr.heap.size → (∀ x, a = some x → x.block ≠ k) → w2.heap[k]? = wr.heap[k]? := fun q hq hx => by
            refine hgrow.block q hq (fun h => ?_)
            cases a with
            | none => cases h
            | some y => injection h with h; exact hx y rfl h.symm
          have hb0 : Below 0 wr w2 := ⟨hgrow.os, hgrow.tape, hgrow.output, hgrow.size, fun k hk => by omega⟩
          have hgat : (∃ y, a = some y ∧ y.block = gm) ∨ gm = wr.heap.size := by
            rcases hat with h | h
            · cases a with
              | none => cases h
              | some y => injection h with h; exact .inl ⟨y, rfl, h.symm⟩
            · injection h with h; exact .inr h
          have hapt : ∀ (z : Option Addr), Apart2 a z → (∀ y, z = some y → y.block < wr.heap.size) → Apart2 (some ⟨gm, 0, none⟩) z := fun z hz1 hz2 x y hx hy e => by
            injection hx with hx
            subst hx
            simp only at e
            rcases hgat with ⟨q, hq, h⟩ | h
            · exact hz1 q y hq hy (by omega)
            · have := hz2 y hy; omega
          have hg2 := hkey g HC.out.lt HC.out.neM
          have H3 := HC.out.setM (D := C.M ++ l) (a' := some ⟨gm, 0, none⟩) (ca' := c2) hg2 (fun x hx => hkey x.block (own_low HC.out.rowH x hx).2 (fun y hy e => HC.out.mh y x hy hx e)) (fun x hx => hkey x.block (own_low HC.out.rowW x hx).2 (fun y hy e => HC.out.mw y x hy hx e)) (by rw [HMl.out]; exact hown')
            (hapt b HC.out.mh (fun y hy => (own_low HC.out.rowH y hy).2)) (hapt d HC.out.mw (fun y hy => (own_low HC.out.rowW y hy).2))
          rw [HMl.out] at H3
          have M3 : Mvs wr (w2.setCell ⟨g, 1, none⟩ (.slice (some ⟨gm, 0, none⟩) (n + k) c2)) (CF g a b d) (CF g (some ⟨gm, 0, none⟩) b d) := by
            refine Mvs.setG ⟨hb0, fun q hq hS => hkey q hq (fun x hx e => hS (.inr (.inl ⟨x, hx, e⟩))), fun q hq => ?_⟩ (.inl rfl) 1 _
            rcases hq with h | ⟨x, hx, rfl⟩ | h
            · exact .inl (.inl h)
            · injection hx with hx
              subst hx
              rcases hgat with ⟨y, hy, h⟩ | h
              · exact .inl (.inr (.inl ⟨y, hy, h⟩))
              · exact .inr (by show wr.heap.size ≤ gm; omega)
            · exact .inl (.inr (.inr h))
          have hW2 : Whole w2 g _ _ := hg2.trans HC.out.box
          have n1 := hW2.cell 1
          have z1 := hW2.frozen 1
          simp only [List.getElem?_toArray, List.getElem?_cons_zero, List.getElem?_cons_succ] at n1
          have hgl2 := hW2.lt
          clear hat hgat hapt hkey hown' hgrow hb0 hW2 hg2 hrow m1 f1
          go_upto_region 14 with fail
          obtain ⟨w3, hw3⟩ : ∃ w3, w3 = w2.setCell ⟨g, 1, none⟩ (.slice (some ⟨gm, 0, none⟩) (n + k) c2) := ⟨_, rfl⟩
          rw [← hw3] at H3 M3 ⊢
          clear hw3 n1 z1
          have hrow3 := H3.rowM
          have k1 := H3.four.2.1
          have hgl3 := H3.lt
          simp only at hrow3 k1
          rw [HMl.out] at hrow3 k1
          have KS := Lib.hid (sort_c (C.M ++ l) (n + k) gm c2 w3 HMl.out (by omega) (by omega) hrow3)
          have HH3 := Lib.hid H3
          clear hrow3 H3
          go_wp2_with fail
          refine KS.out.mono ?_
          rintro e w4 ⟨rfl, own4, g4⟩
          have hkey4 : ∀ q, q < w3.heap.size → q ≠ gm → w4.heap[q]? = w3.heap[q]? := fun q hq hne => g4.block q hq (fun h => hne (Option.some.inj h))
          have hmg : gm ≠ g := HH3.out.neM _ rfl
          have H4 : CoW w4 g (addM C l) (some ⟨gm, 0, none⟩) c2 b cb d cd := by
            have hlS : (sortL (C.M ++ l)).length = n + k := by rw [sortL_len, HMl.out]
            refine ⟨?_, ?_, own_same HH3.out.rowH (fun x hx => hkey4 _ (own_low HH3.out.rowH x hx).2 (fun e => HH3.out.mh _ x rfl hx e.symm)), own_same HH3.out.rowW (fun x hx => hkey4 _ (own_low HH3.out.rowW x hx).2 (fun e => HH3.out.mw _ x rfl hx e.symm)), HH3.out.mh, HH3.out.mw, HH3.out.hw⟩
            · have h1 : Whole w4 g _ _ := (hkey4 g HH3.out.lt (Ne.symm hmg)).trans HH3.out.box
              unfold addM
              simp only
              rw [hlS]
              simp only [HMl.out] at h1
              exact h1
            · unfold addM
              simp only
              rw [hlS]
              exact own4
          have M4 : Mvs wr w4 (CF g a b d) (CF g (some ⟨gm, 0, none⟩) b d) := M3.trans ⟨⟨g4.os, g4.tape, g4.output, g4.size, fun q hq => by omega⟩, fun q hq hS => hkey4 q hq (fun e => hS (.inr (.inl ⟨_, rfl, e.symm⟩))), fun q hq => .inl hq⟩
          have KB := Lib.hid (cbeg_walk K (addM C l) g (some ⟨gm, 0, none⟩) c2 b cb d cd w4 (by omega) HBO.out H4)
          unfold CBegPost at KB
          have hgl4 := H4.lt
          clear KS H4 own4 g4 hkey4 M3 k1
          go_wp2_with fail
          refine KB.out.mono ?_
          rintro e w8 ⟨rfl, d8, c8, H8, M8⟩
          have M9 := M4.trans M8
          clear KB
          go_wp2_with fail
          go_ret
          rw [HJC.out, HB.out]
          exact ⟨rfl, _, _, _, _, _, _, H8, M9⟩
end Go.Proofs.Ytafibgekikjlhaa
