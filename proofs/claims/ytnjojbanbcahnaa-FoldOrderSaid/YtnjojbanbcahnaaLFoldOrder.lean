/- The walk of the statement FoldOrder of layer 15. -/
import Derived.Test.YtnjojbanbcahnaaLFoldSums
import Derived.Test.YtnjojbanbcahnaaInfo
import Derived.OwnWalk
import Derived.IntWalk
namespace Go.Proofs.Ytnjojbanbcahnaa
open Go.RowKit Vm Fo
set_option linter.unusedVariables false

theorem take_at {l : List Int} {j : Nat} (h : j < l.length) : l.take (j + 1) = l.take j ++ [l[j]] := List.take_succ_eq_append_getElem h
theorem rev_at {l : List Int} {n j p : Nat} (hn : l.length = n) (hj : j < n) (hp : p = n - 1 - j) : l.reverse.take (j + 1) = l.reverse.take j ++ [l[p]'(by omega)] := by
  have h : j < l.reverse.length := by rw [List.length_reverse]; omega
  rw [take_at h, List.getElem_reverse]
  subst hp
  congr 3
  omega

set_option maxRecDepth 100000 in
set_option maxHeartbeats 4000000 in
theorem foldOrder_law (a : Option Addr) (len cap : Nat) (zs : List Int) (t : Int) (w : World) (hr : IsRow .i64 w a len cap zs) (hcap : cap * 8 ≤ 140737488351232) (ht0 : (Lit.int .i64 t).wf = true) :
    Calls Try.prog 11 #[.slice a len cap, .int .i64 t] w fun e w' => e = .returned (.bool true) ∧ Below w.heap.size w w' := by
  have ht := wf_i64 ht0
  obtain ⟨xs, hxl, hsl, hxi, hl1, hl2⟩ := row_some hr
  obtain ⟨i0, hi, hz0, hz1, hz2⟩ := info_parts info_i64
  have HXL := Lib.hid hxl
  have HXI := Lib.hid hxi
  clear hr hxl hxi ht0
  go_enter Try.func11, Try.ntmps11
  go_wp2_with fail
  refine (some_walk a len cap _ hl1 hl2).mono ?_
  rintro e w1 ⟨rfl, rfl⟩
  obtain ⟨N, hN⟩ : ∃ N, N = min len 300 := ⟨_, rfl⟩
  rw [← hN] at HXL ⊢
  have hN3 : N ≤ 300 := by omega
  clear hN
  go_wp2_with fail
  go_loopw [5, 6] (fun v x wr => ∃ j : Nat, j ≤ N ∧ x = .int .i64 ((N : Int) - 1 - (j : Int)) ∧ wr.ownsRow w.heap.size 3 1 v (xs.reverse.take j).length (i64s (xs.reverse.take j)) ∧ Below w.heap.size w wr) (fun _ x _ => (intOf x + 1).toNat)
  case atStart => exact ⟨0, by omega, by simp, by simpa [i64s] using World.ownsRow_nil _ _ _ _, Below.refl _ _⟩
  case round =>
    obtain ⟨j, hj, rfl, hown, hb⟩ := hrel
    by_cases hjl : j < N
    · obtain ⟨p, hp⟩ : ∃ p : Nat, p = N - 1 - j := ⟨_, rfl⟩
      have hpp : (N : Int) - 1 - (j : Int) = (p : Int) := by omega
      have hpk : p < N := by omega
      have hpk2 : (p : Int) < (N : Int) := by omega
      have hpx : p < xs.length := by rw [HXL.out]; exact hpk
      obtain ⟨b5, o5, e5, _, c5⟩ := (hsl.below hb (Nat.le_refl _)).at (j := p) (by rw [i64s_length]; exact hpx)
      subst e5
      rw [i64s_at _ _ hpx] at c5
      have hmore := rev_at HXL.out hjl hp
      have hlk : (xs.reverse.take j).length ≤ 300 := by rw [List.length_take]; omega
      have hpn : (N : Int) - 1 - ((j + 1 : Nat) : Int) = (p : Int) - 1 := by omega
      generalize xs[p] = X at *
      have HM2 := Lib.hid hmore
      have HPN := Lib.hid hpn
      rw [hpp]
      have HPP := Lib.hid hpp
      have HP := Lib.hid hp
      clear hmore hpn hpp hp
      go_wp2_with (at_builtin; refine wpList_append_own _ rfl _ _ 57 rfl w.heap.size 3 i0 (.int .i64 0) 1 8 Try.underlying57 hi hz0 hz1 hz2 rfl (by decide) _ _ _ rfl (hown.alloc _) ⟨wr.heap.size, 0, none⟩ 1 1 [.int .i64 X] rfl rfl ?c1 ?c2 ?c3 ?c4 ?c5 ?_)
      case c1 =>
        intro j u hj
        match j, hj with
        | 0, hj => simp at hj; subst hj; simp [Addr.add]
      case c2 => intro u hu; simp at hu; subst hu; rfl
      case c3 => unfold maxLen; omega
      case c4 => omega
      case c5 => exact Nat.le_trans hb.size (by simp)
      intro v' w6 hown' hgrow _
      have hb6 := (hb.alloc hb.size _).grown hgrow (by have := hb.size; simp; omega) (fun k hk => (hown.lt k hk).1)
      have hown6 : w6.ownsRow w.heap.size 3 1 v' (xs.reverse.take (j + 1)).length (i64s (xs.reverse.take (j + 1))) := by
        rw [HM2.out, i64s_snoc]; simpa using hown'
      clear hown' hgrow hown hb c5
      go_wp2
      go_roundw
      case rel => exact ⟨j + 1, by omega, by rw [HPN.out], hown6, hb6⟩
      case measure => simp [intOf]
    · have hjk : j = N := by omega
      subst hjk
      have hneg : (j : Int) - 1 - (j : Int) = -1 := by omega
      rw [hneg]
      have hall : xs.reverse.take j = xs.reverse := List.take_of_length_le (by rw [List.length_reverse, HXL.out]; omega)
      have hrl : xs.reverse.length = j := by rw [List.length_reverse, HXL.out]
      rw [hall, hrl] at hown
      obtain ⟨wo, rfl⟩ : ∃ wo : World, wo = wr := ⟨_, rfl⟩
      clear hall hneg
      rcases Nat.eq_zero_or_pos j with hj0 | hj0
      · subst hj0
        have hx0 : xs = [] := List.length_eq_zero_iff.1 HXL.out
        obtain ⟨a2, cp2, rfl, _⟩ := Sl.own hown
        have K1 : ∀ w', Below wo.heap.size wo w' → Calls Try.prog 38 #[.slice a 0 cap] w' fun e w'' => e = .returned (av (allA [])) ∧ Below w'.heap.size w' w'' := fun w' h => all_walk a 0 cap wo.heap.size [] w' rfl (by omega) (.nil _ _ _) h.size (fun x hx => by cases hx)
        have K2 : ∀ w', Below wo.heap.size wo w' → Calls Try.prog 38 #[.slice a2 0 cp2] w' fun e w'' => e = .returned (av (allA [])) ∧ Below w'.heap.size w' w'' := fun w' h => all_walk a2 0 cp2 wo.heap.size [] w' rfl (by omega) (.nil _ _ _) h.size (fun x hx => by cases hx)
        have hz : allA [] = ⟨0, 0, 0, 0, 0, 0, 0, 0, 0, 0⟩ := rfl
        rw [hz] at K1 K2
        have Q1 := Lib.hid K1
        have Q2 := Lib.hid K2
        have hq : ∀ w, (binOp .eql 53 (.agg #[.int .i64 0, .int .i64 0, .int .i64 0, .int .i64 0, .int .i64 0, .int .i64 0, .int .i64 0, .int .i64 0, .int .i64 0, .int .i64 0]) (.agg #[.int .i64 0, .int .i64 0, .int .i64 0, .int .i64 0, .int .i64 0, .int .i64 0, .int .i64 0, .int .i64 0, .int .i64 0, .int .i64 0])).run Try.prog w = .ok (.bool true) w := fun w => agg_eq ⟨0, 0, 0, 0, 0, 0, 0, 0, 0, 0⟩ w
        clear K1 K2 hz hown hrl hx0 hsl
        go_wp2_with fail
        refine (Q1.out _ (Below.refl _ _)).mono ?_
        rintro e w3 ⟨rfl, g3⟩
        go_wp2_with fail
        refine (Q2.out _ g3).mono ?_
        rintro e w4 ⟨rfl, g4⟩
        have hb4 : Below w.heap.size w w4 := gtrans (gtrans hb g3) g4
        have hb5 := (hb4.alloc hb4.size (.cells #[.int .i64 0, .int .i64 0, .int .i64 0, .int .i64 0, .int .i64 0, .int .i64 0, .int .i64 0, .int .i64 0, .int .i64 0, .int .i64 0] 53)).alloc (Nat.le_trans hb4.size (by simp)) (.cells #[.int .i64 0, .int .i64 0, .int .i64 0, .int .i64 0, .int .i64 0, .int .i64 0, .int .i64 0, .int .i64 0, .int .i64 0, .int .i64 0] 53)
        clear g3 g4 hb
        go_wp2_with fail
        refine (awake15_walk _).mono ?_
        rintro e w5 ⟨rfl, g5⟩
        go_wp2_with fail
        go_ret
        exact ⟨rfl, gtrans hb5 g5⟩
      · obtain ⟨k, hk1, hk2, hk3, hk4⟩ : ∃ k : Nat, k < j ∧ (t.tmod (j : Int) + (j : Int)).tmod (j : Int) = (k : Int) ∧ 0 ≤ t.tmod (j : Int) + (j : Int) ∧ t.tmod (j : Int) + (j : Int) ≤ 600 := by
          have h1 := Int.lt_tmod_of_pos t (show (0 : Int) < (j : Int) by omega)
          have h2 := Int.tmod_lt_of_pos t (show (0 : Int) < (j : Int) by omega)
          have h3 : 0 ≤ t.tmod (j : Int) + (j : Int) := by omega
          have h4 := Int.emod_lt_of_pos (t.tmod (j : Int) + (j : Int)) (show (0 : Int) < (j : Int) by omega)
          have h5 := Int.emod_nonneg (t.tmod (j : Int) + (j : Int)) (show (j : Int) ≠ 0 by omega)
          refine ⟨((t.tmod (j : Int) + (j : Int)) % (j : Int)).toNat, by omega, ?_, h3, by omega⟩
          rw [Int.tmod_eq_emod_of_nonneg h3]; omega
        have hcell := hown
        rcases hown.2 with ⟨_, h0⟩ | ⟨g, cp, cur, rfl, hbg, hg, hnc, hcm, hcs, htake⟩
        · omega
        · have hcs2 : ∀ q u, (i64s xs.reverse)[q]? = some u → wo.cell? ⟨g, q, none⟩ = some u := fun q u hu => by
            have := hcell.cells (g := g) rfl q u hu
            rwa [add_at, Nat.zero_add] at this
          have hgl : g < wo.heap.size := (hcell.lt g rfl).2
          have HC := Lib.hid hcs2
          have hkc : (k : Int) ≤ (cp : Int) := by omega
          have hkj : (k : Int) ≤ (j : Int) := by omega
          have hne : ¬ cp = k := by omega
          have hj0' : (0 : Int) < (j : Int) := by omega
          clear hcs2 htake hcs hg hown
          have HXP : Hid ((xs.reverse.drop k ++ xs.reverse.take k).Perm xs) := by
            show List.Perm _ _
            refine (List.perm_append_comm).trans ?_
            rw [List.take_append_drop]
            exact List.reverse_perm xs
          have hys : (xs.reverse.drop k ++ xs.reverse.take k).length = j := by rw [List.length_append, List.length_drop, List.length_take, hrl]; omega
          have hdl : ((i64s xs.reverse).drop k).length = j - k := by rw [List.length_drop, i64s_length, hrl]
          have htl : ((i64s xs.reverse).take k).length = k := by rw [List.length_take, i64s_length, hrl]; omega
          have HYS := Lib.hid hys
          have HRL := Lib.hid hrl
          clear hrl hys
          have hwz := hb.size
          go_wp2_with (at_builtin; refine wpList_append_own _ rfl _ _ 57 rfl wo.heap.size 3 i0 (.int .i64 0) 1 8 Try.underlying57 hi hz0 hz1 hz2 rfl (by decide) _ _ _ rfl (World.ownsRow_nil _ _ _ _) ⟨g, k, none⟩ (j - k) (cp - k) ((i64s xs.reverse).drop k) rfl (by rw [hdl, Nat.mul_one]) ?c1 ?c2 ?c3 ?c4 ?c5 ?_)
          case c1 =>
            intro q u hq
            rw [List.getElem?_drop] at hq
            rw [add_at]
            exact HC.out _ _ hq
          case c2 =>
            intro u hu
            have := List.mem_of_mem_drop hu
            simp [i64s] at this
            obtain ⟨x, _, rfl⟩ := this
            rfl
          case c3 => unfold maxLen; omega
          case c4 => omega
          case c5 => omega
          intro v1 w1 hown1 hgrow1 _
          have hb1 : Below wo.heap.size wo w1 := (Below.refl _ _).grown hgrow1 (Nat.le_refl _) (fun k hk => by cases hk)
          have hC1 : ∀ q u, (i64s xs.reverse)[q]? = some u → w1.cell? ⟨g, q, none⟩ = some u := fun q u hu => (hb1.cell (by exact hgl)).trans (HC.out q u hu)
          have HC1 := Lib.hid hC1
          have hown1' : w1.ownsRow wo.heap.size 3 1 v1 (j - k) ((i64s xs.reverse).drop k) := by simpa using hown1
          clear hC1 hgrow1 hown1
          go_wp2_with (at_builtin; refine wpList_append_own _ rfl _ _ 57 rfl wo.heap.size 3 i0 (.int .i64 0) 1 8 Try.underlying57 hi hz0 hz1 hz2 rfl (by decide) _ _ _ rfl hown1' ⟨g, 0, none⟩ k cp ((i64s xs.reverse).take k) rfl (by rw [htl, Nat.mul_one]) ?d1 ?d2 ?d3 ?d4 ?d5 ?_)
          case d1 =>
            intro q u hq
            rw [List.getElem?_take] at hq
            split at hq
            · rw [add_at, Nat.zero_add]
              exact HC1.out _ _ hq
            · cases hq
          case d2 =>
            intro u hu
            have := List.mem_of_mem_take hu
            simp [i64s] at this
            obtain ⟨x, _, rfl⟩ := this
            rfl
          case d3 => unfold maxLen; omega
          case d4 => omega
          case d5 => exact hb1.size
          intro v2 w2 hown2 hgrow2 _
          have hb2 : Below wo.heap.size wo w2 := hb1.grown hgrow2 hb1.size (fun q hq => (hown1'.lt q hq).1)
          have hown2' : w2.ownsRow wo.heap.size 3 1 v2 j (i64s (xs.reverse.drop k ++ xs.reverse.take k)) := by
            have e1 : i64s (xs.reverse.drop k ++ xs.reverse.take k) = (i64s xs.reverse).drop k ++ (i64s xs.reverse).take k := by simp [i64s, List.map_drop, List.map_take]
            rw [e1]
            have e2 : j - k + k = j := by omega
            rw [e2] at hown2
            exact hown2
          obtain ⟨a2, cp2, rfl, _⟩ := Sl.own hown2'
          have sl2 := own_sl hown2'
          generalize xs.reverse.drop k ++ xs.reverse.take k = ys at *
          clear hown1' hown2 hown2' hgrow2
          have hsl2 := hsl.below (hb.trans (hb2.mono hwz)) (Nat.le_refl _)
          have hbw : Below w.heap.size w w2 := hb.trans (hb2.mono hwz)
          have hyi : ∀ y ∈ ys, I64 y := fun y hy => HXI.out y (HXP.out.subset hy)
          have ho := Fo.order (l := ys) (m := xs) HXP.out (by rw [HYS.out]; omega)
          have K1 : ∀ w', Below w2.heap.size w2 w' → Calls Try.prog 38 #[.slice a j cap] w' fun e w'' => e = .returned (av (allA xs)) ∧ Below w'.heap.size w' w'' := fun w' h => all_walk a j cap w2.heap.size xs w' HXL.out.symm (by omega) ((hsl2.grow hbw.size).below h (Nat.le_refl _)) h.size HXI.out
          have K2 : ∀ w', Below w2.heap.size w2 w' → Calls Try.prog 38 #[.slice a2 j cp2] w' fun e w'' => e = .returned (av (allA ys)) ∧ Below w'.heap.size w' w'' := fun w' h => all_walk a2 j cp2 w2.heap.size ys w' HYS.out.symm (by omega) (sl2.below h (Nat.le_refl _)) h.size hyi
          generalize allA xs = A at *
          generalize allA ys = D at *
          obtain ⟨x0, x1, x2, x3, x4, x5, x6, x7, x8, x9⟩ := A
          obtain ⟨y0, y1, y2, y3, y4, y5, y6, y7, y8, y9⟩ := D
          obtain ⟨q0, q2, q3, q4, q5, q6, q7, q8, q9⟩ := ho
          simp only at q0 q2 q3 q4 q5 q6 q7 q8 q9
          subst q0 q2 q3 q4 q5 q6 q7 q8 q9
          have Q1 := Lib.hid K1
          have Q2 := Lib.hid K2
          have hq : ∀ w, (binOp .eql 53 (.agg #[.int .i64 y0, .int .i64 0, .int .i64 y2, .int .i64 y3, .int .i64 y4, .int .i64 y5, .int .i64 y6, .int .i64 y7, .int .i64 y8, .int .i64 y9]) (.agg #[.int .i64 y0, .int .i64 0, .int .i64 y2, .int .i64 y3, .int .i64 y4, .int .i64 y5, .int .i64 y6, .int .i64 y7, .int .i64 y8, .int .i64 y9])).run Try.prog w = .ok (.bool true) w := fun w => agg_eq ⟨y0, 0, y2, y3, y4, y5, y6, y7, y8, y9⟩ w
          clear K1 K2 hyi hsl2 sl2 HC1 HC
          go_wp2_with fail
          refine (Q1.out _ (Below.refl _ _)).mono ?_
          rintro e w3 ⟨rfl, g3⟩
          go_wp2_with fail
          refine (Q2.out _ g3).mono ?_
          rintro e w4 ⟨rfl, g4⟩
          have hb4 : Below w.heap.size w w4 := gtrans (gtrans hbw g3) g4
          have hb5 := (hb4.alloc hb4.size (.cells #[.int .i64 y0, .int .i64 0, .int .i64 y2, .int .i64 y3, .int .i64 y4, .int .i64 y5, .int .i64 y6, .int .i64 y7, .int .i64 y8, .int .i64 y9] 53)).alloc (Nat.le_trans hb4.size (by simp)) (.cells #[.int .i64 y0, .int .i64 0, .int .i64 y2, .int .i64 y3, .int .i64 y4, .int .i64 y5, .int .i64 y6, .int .i64 y7, .int .i64 y8, .int .i64 y9] 53)
          clear g3 g4 hb hb1 hb2 hbw
          go_wp2_with fail
          refine (awake15_walk _).mono ?_
          rintro e w5 ⟨rfl, g5⟩
          go_wp2_with fail
          go_ret
          exact ⟨rfl, gtrans hb5 g5⟩
end Go.Proofs.Ytnjojbanbcahnaa
