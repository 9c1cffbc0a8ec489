/- The walk of headgateref29.Decode. -/
import Derived.Test.YtdeenkpkcibebabBkDec
import Derived.Test.YtdeenkpkcibebabRefBk
import Derived.Test.YtdeenkpkcibebabRefTake
namespace Go.Proofs.Ytdeenkpkcibebab
open Go.RowKit Vm Sk
set_option linter.unusedVariables false

theorem lastOf_getD (l : List Bk) : ∀ (last : Int) (j : Nat), l.length = j + 1 → lastOf last l = (l.getD j bk0).b := by
  induction l with
  | nil => intro last j h; cases h
  | cons x t ih =>
    intro last j h
    rw [lastOf]
    cases t with
    | nil => obtain rfl : j = 0 := by simpa using h.symm
             rfl
    | cons y t => obtain ⟨j', rfl⟩ : ∃ j', j = j' + 1 := ⟨j - 1, by simp at h; omega⟩
                  rw [ih x.b j' (by simpa using h)]; rfl

set_option maxRecDepth 100000 in
set_option maxHeartbeats 4000000 in
theorem rbkdec_walk (s : ByteArray) (w : World) (o : Option (List Bk)) (ho : IsS s.data.toList o) (hs : s.size ≤ 140737488355328) :
    Calls Try.prog 38 #[.string s] w (SPost w o) := by
  have HO := Lib.hid ho
  clear ho
  have hsm : s.size ≤ maxLen := by unfold maxLen; omega
  have hs0 : str [] = ⟨#[]⟩ := rfl
  have HA0 := Lib.hid (show takeA (⟨#[]⟩ : ByteArray) = (0, [], 2) by decide +kernel)
  have HM0 := Lib.hid (show (⟨#[]⟩ : ByteArray).size ≤ maxLen by unfold maxLen; decide)
  obtain ⟨i0, hi, hz0, hz1, hz2⟩ := info_parts info_bk
  cases hT : takeL s.data.toList with
  | none =>
    obtain rfl : o = none := HO.out.n1 hT
    have HA := Lib.hid (show takeA s = (0, [], 2) by unfold takeA; rw [hT])
    clear hT HO
    go_enter Try.func38, Try.ntmps38
    go_wp2_with fail
    refine (ref_take_walk s _ hsm).mono ?_
    rw [HA.out]
    rintro e w1 ⟨rfl, d1⟩
    go_wp2_with fail
    go_ret2
    exact ⟨d1, .inl ⟨rfl, rfl⟩⟩
  | some p =>
    obtain ⟨n, r1⟩ := p
    have HA := Lib.hid (show takeA s = (n, r1, 0) by unfold takeA; rw [hT])
    have hr1 : (str r1).size ≤ 140737488355328 := suffix_size (takeL_some hT).2 hs
    by_cases hn : n < 0 ∨ 1920 < n
    · obtain rfl : o = none := HO.out.n2 hT hn
      have hn' : n < 0 ∨ (¬ n < 0 ∧ 1920 < n) := by omega
      clear hT HO hn
      go_enter Try.func38, Try.ntmps38
      go_wp2_with fail
      refine (ref_take_walk s _ hsm).mono ?_
      rw [HA.out]
      rintro e w1 ⟨rfl, d1⟩
      rcases hn' with q | ⟨q0, q⟩
      all_goals
        go_wp2_with fail
        go_ret2
        exact ⟨d1, .inl ⟨rfl, rfl⟩⟩
    · obtain ⟨N, rfl⟩ := Int.eq_ofNat_of_zero_le (show 0 ≤ n by omega)
      have hN : N ≤ 1920 := by omega
      have UF := Lib.hid (show (∀ l, MayS l → unR N 0 r1 = some (l, []) → False) → o = none from fun h => HO.out.n4 hT h)
      have UM := Lib.hid (show ∀ ls, unR N 0 r1 = some (ls, []) → MayS ls → o = some ls from fun ls h hm => HO.out.y4 hT hN h hm)
      have hn0 : ¬ ((N : Int) < 0) := by omega
      have hn1 : ¬ (1920 < (N : Int)) := by omega
      clear hT HO hn
      go_enter Try.func38, Try.ntmps38
      go_wp2_with fail
      refine (ref_take_walk s _ hsm).mono ?_
      rw [HA.out]
      rintro e w1 ⟨rfl, B1⟩
      go_wp2_with fail
      go_loopw [5, 7, 8] (fun t v i wr => ∃ (x : ByteArray) (ls : List Bk) (a : Option Addr) (c : Nat), t = .string x ∧ v = .slice a ls.length c ∧ i = .int .i64 ls.length ∧ x.size ≤ 140737488355328 ∧ ls.length ≤ N ∧ (-1920 * (ls.length : Int) ≤ lastOf 0 ls ∧ lastOf 0 ls ≤ 1920 * (ls.length : Int)) ∧ wr.ownsRow w.heap.size 84 2 (.slice a ls.length c) ls.length (bkCells ls) ∧ Below w.heap.size w wr ∧ Hid (LeftR r1 N ls (lastOf 0 ls) x.data.toList)) (fun _ _ i _ => N - (intOf i).toNat)
      case atStart => exact ⟨str r1, [], none, 0, rfl, rfl, rfl, hr1, Nat.zero_le _, ⟨by simp [lastOf], by simp [lastOf]⟩, World.ownsRow_nil _ _ _ _, B1, Lib.hid (by rw [str_toList]; exact LeftR.start _ _)⟩
      case round =>
        obtain ⟨x, ls, a, cc, rfl, rfl, rfl, hx, hll, hrg, hown, hb, HL⟩ := hrel
        obtain ⟨wo, rfl⟩ : ∃ wo : World, wo = wr := ⟨_, rfl⟩
        clear B1
        have hxm : x.size ≤ maxLen := by unfold maxLen; omega
        by_cases hlt : (ls.length : Int) < (N : Int)
        · cases h1 : takeL x.data.toList with
          | none =>
            obtain rfl : o = none := UF.out (fun l _ h => by rw [HL.out.fail (by omega) (.inl h1)] at h; cases h)
            have HX := Lib.hid (show takeA x = (0, [], 2) by unfold takeA; rw [h1])
            clear UF UM HL h1
            go_wp2_with fail
            refine (ref_take_walk x _ hxm).mono ?_
            rw [HX.out]
            rintro y w2 ⟨rfl, g2⟩
            go_wp2_with fail
            refine (ref_take_walk _ _ HM0.out).mono ?_
            rw [HA0.out]
            rintro y w3 ⟨rfl, g3⟩
            go_wp2_with fail
            go_ret2
            exact ⟨hb.trans ((gtrans g2 g3).mono hb.size), .inl ⟨rfl, rfl⟩⟩
          | some q =>
            obtain ⟨d, s1⟩ := q
            have HX := Lib.hid (show takeA x = (d, s1, 0) by unfold takeA; rw [h1])
            have z1 := suffix_size (takeL_some h1).2 hx
            have m1 : (str s1).size ≤ maxLen := by unfold maxLen; omega
            cases h2 : takeL s1 with
            | none =>
              obtain rfl : o = none := UF.out (fun l _ h => by rw [HL.out.fail (by omega) (.inr ⟨d, s1, h1, .inl h2⟩)] at h; cases h)
              have HY := Lib.hid (show takeA (str s1) = (0, [], 2) by unfold takeA; rw [str_toList, h2])
              clear UF UM HL h1 h2
              go_wp2_with fail
              refine (ref_take_walk x _ hxm).mono ?_
              rw [HX.out]
              rintro y w2 ⟨rfl, g2⟩
              go_wp2_with fail
              refine (ref_take_walk (str s1) _ m1).mono ?_
              rw [HY.out]
              rintro y w3 ⟨rfl, g3⟩
              go_wp2_with fail
              go_ret2
              exact ⟨hb.trans ((gtrans g2 g3).mono hb.size), .inl ⟨rfl, rfl⟩⟩
            | some q2 =>
              obtain ⟨k, s2⟩ := q2
              have HY := Lib.hid (show takeA (str s1) = (k, s2, 0) by unfold takeA; rw [str_toList, h2])
              have hr2 : (str s2).size ≤ 140737488355328 := suffix_size (s := str s1) (by rw [str_toList]; exact (takeL_some h2).2) z1
              by_cases hd : d < -1920 ∨ 1920 < d
              · obtain rfl : o = none := UF.out (fun l _ h => by rw [HL.out.fail (by omega) (.inr ⟨d, s1, h1, .inr hd⟩)] at h; cases h)
                have hd' : d < -1920 ∨ (¬ d < -1920 ∧ 1920 < d) := by omega
                clear UF UM HL h1 h2 hd
                go_wp2_with fail
                refine (ref_take_walk x _ hxm).mono ?_
                rw [HX.out]
                rintro y w2 ⟨rfl, g2⟩
                go_wp2_with fail
                refine (ref_take_walk (str s1) _ m1).mono ?_
                rw [HY.out]
                rintro y w3 ⟨rfl, g3⟩
                rcases hd' with q | ⟨q0, q⟩
                all_goals
                  go_wp2_with fail
                  go_ret2
                  exact ⟨hb.trans ((gtrans g2 g3).mono hb.size), .inl ⟨rfl, rfl⟩⟩
              · have HL2 := Lib.hid (HL.out.step (by omega) h1 h2 hd)
                obtain ⟨d1, d2⟩ : ¬ d < -1920 ∧ ¬ 1920 < d := by omega
                clear UF UM HL h1 h2 hd
                go_wp2_with fail
                refine (ref_take_walk x _ hxm).mono ?_
                rw [HX.out]
                rintro y w2 ⟨rfl, g2⟩
                go_wp2_with fail
                refine (ref_take_walk (str s1) _ m1).mono ?_
                rw [HY.out]
                rintro y w3 ⟨rfl, g3⟩
                have g3 := gtrans g2 g3
                have hb2 := hb.trans (g3.mono hb.size)
                have hown2 := own_keep hown g3
                clear g2 g3 hb hown
                rcases Nat.eq_zero_or_pos ls.length with hz | hz
                · obtain rfl : ls = [] := List.eq_nil_of_length_eq_zero hz
                  simp only [lastOf, Int.add_zero] at HL2
                  simp only [List.length_nil] at hown2 ⊢
                  go_wp2_with (at_builtin; refine wpList_append_own _ rfl _ _ 30 rfl w.heap.size 84 i0 (.agg #[.int .i64 0, .int .i64 0]) 2 16 Try.underlying30 hi hz0 hz1 hz2 rfl (by decide) _ _ _ rfl (hown2.alloc _) ⟨w3.heap.size, 0, none⟩ 1 1 [.int .i64 d, .int .i64 k] rfl rfl ?c1 ?c2 ?c3 ?c4 ?c5 ?_)
                  case c1 =>
                    intro j u hj
                    match j, hj with
                    | 0, hj => simp at hj; subst hj; simp [Addr.add]
                    | 1, hj => simp at hj; subst hj; simp [Addr.add]
                  case c2 => intro u hu; simp at hu; rcases hu with rfl | rfl <;> rfl
                  case c3 => unfold maxLen; first | omega | (simp only [List.length_nil] at *; omega)
                  case c4 => first | omega | (simp only [List.length_nil] at *; omega)
                  case c5 => have := hb2.size; simp; omega
                  intro v' w4 hown' hgrow _
                  obtain ⟨a3, c3, rfl⟩ := own_shape hown'
                  have hb3 := (hb2.alloc hb2.size (.cells #[.int .i64 d, .int .i64 k] 84)).grown hgrow (by have := hb2.size; simp; omega) (fun g hg => (hown2.lt g hg).1)
                  have hown3 : w4.ownsRow w.heap.size 84 2 (.slice a3 (([] : List Bk) ++ [(⟨d, k⟩ : Bk)]).length c3) (([] : List Bk) ++ [(⟨d, k⟩ : Bk)]).length (bkCells (([] : List Bk) ++ [(⟨d, k⟩ : Bk)])) := by
                    rw [bkCells_snoc, List.length_append]; exact hown'
                  clear hown' hgrow hown2 hb2
                  go_wp2_with fail
                  go_roundw
                  case rel => exact ⟨str s2, ([] : List Bk) ++ [⟨d, k⟩], a3, c3, rfl, by simp, by simp, hr2, by simp; omega, by rw [lastOf_snoc]; simp; omega, hown3, hb3, Lib.hid (by rw [str_toList, lastOf_snoc]; exact HL2.out)⟩
                  case measure => simp [intOf]; omega
                · obtain ⟨j, hj⟩ : ∃ j, ls.length = j + 1 := ⟨ls.length - 1, by omega⟩
                  have hlo := lastOf_getD ls 0 j hj
                  have hL := own_sln hown2
                  obtain ⟨b1, o1, rfl, hb1, hc⟩ := hL.bk hz
                  obtain ⟨p0, _⟩ := hc j (by omega)
                  rw [← hlo] at p0
                  have hjw : IntKind.i64.wrap ((ls.length : Int) - 1) = (j : Int) := by rw [IntWalk.i64_in _ (by omega)]; omega
                  have hjl : j < ls.length := by omega
                  have HLO := Lib.hid hlo
                  clear hc hL hlo hj
                  have hrg1 := hrg.1
                  have hrg2 := hrg.2
                  clear hrg
                  generalize lastOf 0 ls = la at *
                  have hadd : IntKind.i64.wrap (d + la) = d + la := IntWalk.i64_in _ (by omega)
                  go_wp2_with (at_builtin; refine wpList_append_own _ rfl _ _ 30 rfl w.heap.size 84 i0 (.agg #[.int .i64 0, .int .i64 0]) 2 16 Try.underlying30 hi hz0 hz1 hz2 rfl (by decide) _ _ _ rfl (hown2.alloc _) ⟨w3.heap.size, 0, none⟩ 1 1 [.int .i64 (d + la), .int .i64 k] rfl rfl ?c1 ?c2 ?c3 ?c4 ?c5 ?_)
                  case c1 =>
                    intro j u hj
                    match j, hj with
                    | 0, hj => simp at hj; subst hj; simp [Addr.add]
                    | 1, hj => simp at hj; subst hj; simp [Addr.add]
                  case c2 => intro u hu; simp at hu; rcases hu with rfl | rfl <;> rfl
                  case c3 => unfold maxLen; first | omega | (simp only [List.length_nil] at *; omega)
                  case c4 => first | omega | (simp only [List.length_nil] at *; omega)
                  case c5 => have := hb2.size; simp; omega
                  intro v' w4 hown' hgrow _
                  obtain ⟨a3, c3, rfl⟩ := own_shape hown'
                  have hb3 := (hb2.alloc hb2.size (.cells #[.int .i64 (d + la), .int .i64 k] 84)).grown hgrow (by have := hb2.size; simp; omega) (fun g hg => (hown2.lt g hg).1)
                  have hown3 : w4.ownsRow w.heap.size 84 2 (.slice a3 (ls ++ [(⟨(d + la), k⟩ : Bk)]).length c3) (ls ++ [(⟨(d + la), k⟩ : Bk)]).length (bkCells (ls ++ [(⟨(d + la), k⟩ : Bk)])) := by
                    rw [bkCells_snoc, List.length_append]; exact hown'
                  clear hown' hgrow hown2 hb2
                  go_wp2_with fail
                  go_roundw
                  case rel => exact ⟨str s2, ls ++ [⟨(d + la), k⟩], a3, c3, rfl, by simp, by simp, hr2, by simp; omega, by rw [lastOf_snoc]; simp; omega, hown3, hb3, Lib.hid (by rw [str_toList, lastOf_snoc]; exact HL2.out)⟩
                  case measure => simp [intOf]; omega
        · obtain hlN : ls.length = N := by omega
          have hd := HL.out.done hlN
          have hL := own_sln hown
          by_cases hxe : x.data.toList = []
          · rw [hxe] at hd
            obtain rfl : x = str [] := by rw [← hxe, str_data]
            by_cases hm : MayS ls
            · obtain rfl := UM.out ls hd hm
              have HC := Lib.hid (fun w h hB => rmay29_walk ls N a cc wo.heap.size w true hlN (by omega) ⟨fun _ => hm, fun _ => rfl⟩ h hB)
              clear UF UM hd hm HL
              rw [hs0]
              go_wp2_with fail
              refine (HC.out _ hL (Nat.le_refl _)).mono ?_
              rintro y w2 ⟨rfl, g2⟩
              have hL2 := (hL.below g2 (Nat.le_refl _)).grow g2.size
              go_wp2_with fail
              go_ret2
              exact ⟨hb.trans (g2.mono hb.size), .inr ⟨ls, a, cc, rfl, by rw [hlN]; rfl, hL2⟩⟩
            · obtain rfl : o = none := UF.out (fun l hml h => by rw [hd] at h; injection h with h; injection h with h _; subst h; exact hm hml)
              have HC := Lib.hid (fun w h hB => rmay29_walk ls N a cc wo.heap.size w false hlN (by omega) ⟨fun h => (by cases h), fun h => absurd h hm⟩ h hB)
              clear UF UM hd hm HL
              rw [hs0]
              go_wp2_with fail
              refine (HC.out _ hL (Nat.le_refl _)).mono ?_
              rintro y w2 ⟨rfl, g2⟩
              go_wp2_with fail
              go_ret2
              exact ⟨hb.trans (g2.mono hb.size), .inl ⟨rfl, rfl⟩⟩
          · obtain rfl : o = none := UF.out (fun l _ h => by rw [hd] at h; injection h with h; injection h with _ h; exact hxe h)
            have hxl : 0 < (x.size : Int) := by
              rw [← toList_length]
              cases hh : x.data.toList with
              | nil => exact absurd hh hxe
              | cons y l => simp
            have hxb : ¬ x = ByteArray.empty := fun h => hxe (by rw [h]; rfl)
            have hxp : 0 < x.size := by omega
            clear UF UM hd HL hxe
            go_wp2_with fail
            go_ret2
            exact ⟨hb, .inl ⟨rfl, rfl⟩⟩
end Go.Proofs.Ytdeenkpkcibebab
