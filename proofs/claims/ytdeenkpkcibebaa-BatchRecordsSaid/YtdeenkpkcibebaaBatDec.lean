/- The walk of batch.Decode. -/
import Derived.Test.YtdeenkpkcibebaaBatMath
import Derived.Test.YtdeenkpkcibebaaBatTake
import Derived.Test.YtdeenkpkcibebaaBatCheck2
import Derived.Deep.RegionHeld3
namespace Go.Proofs.Ytdeenkpkcibebaa
open Go.RowKit Vm Bm
set_option linter.unusedVariables false

set_option maxRecDepth 100000 in
set_option maxHeartbeats 4000000 in
theorem bdec_walk (s : ByteArray) (w : World) (o : Option Bat) (ho : o = unbatL s.data.toList) (hs : s.size ≤ 140737488355328) :
    Calls Try.prog 24 #[.string s] w (BPost w o) := by
  have HO := Lib.hid ho
  clear ho
  have R0 := Lib.hid (Whole.new w 24 (bvc zb none 0))
  have B0 := below_alloc w (.cells (bvc zb none 0) 24)
  have hs0 : str [] = ⟨#[]⟩ := rfl
  obtain ⟨i0, hi, hz0, hz1, hz2⟩ := info_parts info_rec
  cases hT : takeN 5 s.data.toList with
  | none =>
    obtain rfl : o = none := by rw [HO.out]; exact unbat_n hT
    have HT := Lib.hid hT
    clear hT HO
    go_enter Try.func24, Try.ntmps24
    go_wp2_with fail
    refine (take_none_at s 5 5 rfl _ hs (by omega) HT.out).mono ?_
    rintro e w1 ⟨rfl, g1⟩
    have B1 := B0.trans (g1.mono B0.size)
    obtain ⟨c0, c1, c2, c3, c4, f0, f1, f2, f3, f4, lt⟩ := (R0.out.keep g1).fives
    clear g1 B0
    go_wp2_with fail
    refine bodyPost_ret (v := .tuple #[bv zb none 0, .int .i64 2]) (by simp [results, Try.results24, go_sem, c0, c1, c2, c3, c4, bv, bvc, zb]) rfl ⟨?_, .inl ⟨rfl, rfl⟩⟩
    exact below_setFive B1 (Nat.le_refl _) _ _ _ _ _
  | some vr =>
    obtain ⟨vs, r1⟩ := vr
    obtain ⟨k, p, e, q, n, rfl⟩ := five_nums hT
    have hr1 : (str r1).size ≤ 140737488355328 := by
      have e1 := congrArg List.length (takeN_tail hT).2
      rw [List.length_append, toList_length] at e1
      rw [str_size]; omega
    have HT := Lib.hid hT
    by_cases hn : n < 0 ∨ 64 < n
    · obtain rfl : o = none := by rw [HO.out]; exact unbat_bad hT hn
      have hn' : n < 0 ∨ (¬ n < 0 ∧ 64 < n) := by omega
      clear hT HO hn hr1
      go_enter Try.func24, Try.ntmps24
      go_wp2_with fail
      refine (take_all_at s 5 5 rfl [k, p, e, q, n] r1 _ hs (by omega) HT.out).mono ?_
      rintro x w1 ⟨a, c, rfl, o1, g1⟩
      have B1 := B0.trans (g1.mono B0.size)
      obtain ⟨c0, c1, c2, c3, c4, f0, f1, f2, f3, f4, lt⟩ := (R0.out.keep g1).fives
      have sl := own_sl o1
      obtain ⟨b1, x1, rfl, l1, k4⟩ := sl.at (j := 4) (by simp [i64s])
      simp [i64s] at k4
      clear g1 B0 o1 sl
      rcases hn' with q1 | ⟨q0, q1⟩
      all_goals
        go_wp2_with fail
        refine bodyPost_ret (v := .tuple #[bv zb none 0, .int .i64 2]) (by simp [results, Try.results24, go_sem, c0, c1, c2, c3, c4, bv, bvc, zb]) rfl ⟨?_, .inl ⟨rfl, rfl⟩⟩
        exact below_setFive B1 (Nat.le_refl _) _ _ _ _ _
    · obtain ⟨N, rfl⟩ := Int.eq_ofNat_of_zero_le (show 0 ≤ n by omega)
      have hN : N ≤ 64 := by omega
      have UF := Lib.hid (show takeRs N r1 = none → o = none from fun h => by rw [HO.out]; exact unbat_fail hT hN h)
      have UR := Lib.hid (show ∀ l t, takeRs N r1 = some (l, t) → t ≠ [] → o = none from fun l t h ht => by rw [HO.out]; exact unbat_rest hT hN h ht)
      have UN := Lib.hid (show ∀ l, takeRs N r1 = some (l, []) → ¬ MayB ⟨k, p, e, q, l⟩ → o = none from fun l h ht => by rw [HO.out]; exact unbat_not hT hN h ht)
      have UM := Lib.hid (show ∀ l, takeRs N r1 = some (l, []) → MayB ⟨k, p, e, q, l⟩ → o = some ⟨k, p, e, q, l⟩ from fun l h ht => by rw [HO.out]; exact unbat_may hT hN h ht)
      have hn0 : ¬ ((N : Int) < 0) := by omega
      have hn1 : ¬ (64 < (N : Int)) := by omega
      clear hT HO hn
      go_enter Try.func24, Try.ntmps24
      go_wp2_with fail
      refine (take_all_at s 5 5 rfl [k, p, e, q, (N : Int)] r1 _ hs (by omega) HT.out).mono ?_
      rintro x w1 ⟨a, c, rfl, o1, g1⟩
      have B1 := B0.trans (g1.mono B0.size)
      have R1 := R0.out.keep g1
      have sl := own_sl o1
      obtain ⟨b1, x1, rfl, l1, k4⟩ := sl.at (j := 4) (by simp [i64s])
      obtain ⟨b2, x2, e2, l2, k0⟩ := sl.at (j := 0) (by simp [i64s])
      obtain ⟨rfl, rfl⟩ : b1 = b2 ∧ x1 = x2 := by simpa using e2
      obtain ⟨b2, x2, e2, l2, k1⟩ := sl.at (j := 1) (by simp [i64s])
      obtain ⟨rfl, rfl⟩ : b1 = b2 ∧ x1 = x2 := by simpa using e2
      obtain ⟨b2, x2, e2, l2, k2⟩ := sl.at (j := 2) (by simp [i64s])
      obtain ⟨rfl, rfl⟩ : b1 = b2 ∧ x1 = x2 := by simpa using e2
      obtain ⟨b2, x2, e2, l2, k3⟩ := sl.at (j := 3) (by simp [i64s])
      obtain ⟨rfl, rfl⟩ : b1 = b2 ∧ x1 = x2 := by simpa using e2
      simp [i64s] at k0 k1 k2 k3 k4
      clear g1 B0 o1 sl e2 R0 l2
      go_wp2_with fail
      have hS0 : w1.drew.cell? ⟨b1, x1, none⟩ = some (.int .i64 k) ∧ w1.drew.cell? ⟨b1, x1 + 1, none⟩ = some (.int .i64 p) ∧ w1.drew.cell? ⟨b1, x1 + 2, none⟩ = some (.int .i64 e) ∧ w1.drew.cell? ⟨b1, x1 + 3, none⟩ = some (.int .i64 q) := ⟨k0, k1, k2, k3⟩
      go_region_held3 (fun w' => w'.cell? ⟨b1, x1, none⟩ = some (.int .i64 k) ∧ w'.cell? ⟨b1, x1 + 1, none⟩ = some (.int .i64 p) ∧ w'.cell? ⟨b1, x1 + 2, none⟩ = some (.int .i64 e) ∧ w'.cell? ⟨b1, x1 + 3, none⟩ = some (.int .i64 q))
        (first | with_reducible assumption | (refine ⟨?_, ?_, ?_, ?_⟩ <;> (refine (World.cell?_alloc_past _ _ _ ?_).trans ?_ <;> with_reducible assumption)))
        (first | fail | fail)
      obtain ⟨V, hV⟩ : ∃ V, V = (w1.alloc (.cells #[.int .i64 k, .int .i64 p, .int .i64 e, .int .i64 q, .slice none 0 0] 24)).drew := ⟨_, rfl⟩
      rw [← hV]
      have T0 : Whole V w1.heap.size 24 (bvc ⟨k, p, e, q, []⟩ none 0) := by rw [hV]; exact Whole.new w1 24 _
      have B2 : Below w1.heap.size w1 V := by rw [hV]; exact (below_alloc w1 _).drew
      have z2 : w1.heap.size < V.heap.size := by rw [hV]; simp
      clear hV hS0 k0 k1 k2 k3
      go_wp2_with fail
      go_loopw [0] (fun t wr => ∃ (x : ByteArray) (ls : List Rec) (a : Option Addr) (c : Nat), t = .string x ∧ x.size ≤ 140737488355328 ∧ ls.length ≤ N ∧ Whole wr w1.heap.size 24 (bvc ⟨k, p, e, q, ls⟩ a c) ∧ wr.ownsRow (w1.heap.size + 1) 43 3 (.slice a ls.length c) ls.length (recCells ls) ∧ Below w1.heap.size w1 wr ∧ Hid (Left6 r1 N ls x.data.toList)) (fun t _ => match t with | .string x => x.size | _ => 0)
      case atStart => exact ⟨str r1, [], none, 0, rfl, hr1, Nat.zero_le _, T0, World.ownsRow_nil _ _ _ _, B2, Lib.hid (by rw [str_toList]; exact Left6.start _ _)⟩
      case round =>
        obtain ⟨x, ls, a, cc, rfl, hx, hll, hT, hown, hb, HL⟩ := hrel
        clear T0 B2 z2 hr1
        obtain ⟨wo, rfl⟩ : ∃ wo : World, wo = wr := ⟨_, rfl⟩
        obtain ⟨c0, c1, c2, c3, c4, hg⟩ := Whole.five (b := ⟨k, p, e, q, ls⟩) hT
        have m4 := (hb.cell (p := ⟨b1, x1 + 4, none⟩) l1).trans k4
        have hg1 : b1 < wo.heap.size := Nat.lt_of_lt_of_le l1 hb.size
        simp only at c0 c1 c2 c3 c4
        by_cases hlt : (ls.length : Int) < (N : Int)
        · go_wp2_with fail
          go_quiet (fail)
          go_wp2_with fail
          have hal := (below_drewN w1.heap.size wo nq)
          have hb2 := (hb.trans hal).alloc hb.size (.cells #[.int .i64 0, .int .i64 0, .string ⟨#[]⟩] 43)
          have X0 := Box3.start (wo.drewN nq) (.int .i64 0) (.int .i64 0) (.string ⟨#[]⟩) 43
          have hT2 := (hT.drewN nq).keep (below_alloc (wo.drewN nq) (.cells #[.int .i64 0, .int .i64 0, .string ⟨#[]⟩] 43))
          have hown2 := own_keep hown ((below_drewN wo.heap.size wo nq).alloc (Nat.le_refl _) (.cells #[.int .i64 0, .int .i64 0, .string ⟨#[]⟩] 43))
          have hsz0 : (wo.drewN nq).heap.size = wo.heap.size := rfl
          rw [hsz0] at X0
          have hwlt : w.heap.size < wo.heap.size := by have := R1.lt; omega
          have hne : ∀ g, (Value.slice a ls.length cc).ownBlock = some g → g ≠ wo.heap.size := fun g hg => by have := (hown.lt g hg).2; omega
          clear hal hT hown hb c0 c1 c2 c3 c4 m4 hsz0
          refine (take_rec_walk x _ hx).mono ?_
          cases hR : takeR x.data.toList with
          | none =>
            rw [recA_none hR]
            obtain rfl : o = none := UF.out (HL.out.fail (by omega) hR)
            clear UF UR UN UM HL hR
            rintro y w2 ⟨rfl, g2⟩
            have hb3 := hb2.trans (g2.mono hb2.size)
            have hb4 := B1.trans (hb3.mono B1.size)
            obtain ⟨c0, c1, c2, c3, c4, f0, f1, f2, f3, f4, lt⟩ := (R1.keep hb3).fives
            obtain ⟨n0, n1, n2, m0, m1, m2, lt2⟩ := X0.keep g2
            clear hb2 hb3 g2 X0 hT2 hown2
            simp only [rv, zr]
            go_wp2_with fail
            refine bodyPost_ret (v := .tuple #[bv zb none 0, .int .i64 2]) (by simp [results, Try.results24, go_sem, c0, c1, c2, c3, c4, bv, bvc, zb]) rfl ⟨?_, .inl ⟨rfl, rfl⟩⟩
            exact below_setFive (((hb4.setCell (by show _ ≤ wo.heap.size; omega) _).setCell (by show _ ≤ wo.heap.size; omega) _).setCell (by show _ ≤ wo.heap.size; omega) _) (Nat.le_refl _) _ _ _ _ _
          | some rt =>
            obtain ⟨r, t⟩ := rt
            rw [recA_some hR]
            have hsz := takeR_size hR
            have HL2 := Lib.hid (HL.out.step (by omega) hR)
            clear HL hR
            rintro y w2 ⟨rfl, g2⟩
            have hb3 := hb2.trans (g2.mono hb2.size)
            have hT3 := hT2.keep g2
            have hown3 := own_keep hown2 g2
            have X3 := X0.keep g2
            obtain ⟨n0, n1, n2, m0, m1, m2, lt2⟩ := X3
            obtain ⟨c0, c1, c2, c3, c4, f0, f1, f2, f3, f4, lt⟩ := Whole.fives (b := ⟨k, p, e, q, ls⟩) hT3
            have hown4 := own_far (u := .string (str r.x)) (own_far (u := .int .i64 r.t) (own_far (u := .int .i64 r.k) hown3 wo.heap.size 0 hne) wo.heap.size 1 hne) wo.heap.size 2 hne
            have hq3 : Below (w1.heap.size + 1) w2 (((w2.setCell ⟨wo.heap.size, 0, none⟩ (.int .i64 r.k)).setCell ⟨wo.heap.size, 1, none⟩ (.int .i64 r.t)).setCell ⟨wo.heap.size, 2, none⟩ (.string (str r.x))) :=
              (((Below.refl (w1.heap.size + 1) w2).setCell (p := ⟨wo.heap.size, 0, none⟩) hg _).setCell (p := ⟨wo.heap.size, 1, none⟩) hg _).setCell (p := ⟨wo.heap.size, 2, none⟩) hg _
            clear hb2 g2 X0 hT2 hown2 hown3
            simp only [rv]
            go_wp2_with (at_builtin; refine wpList_append_own _ rfl _ _ 22 rfl (w1.heap.size + 1) 43 i0 (.agg #[.int .i64 0, .int .i64 0, .string ⟨#[]⟩]) 3 32 Try.underlying22 hi hz0 hz1 hz2 rfl (by decide) _ _ _ rfl (hown4.alloc _) ⟨w2.heap.size, 0, none⟩ 1 1 [.int .i64 r.k, .int .i64 r.t, .string (str r.x)] rfl rfl ?c1 ?c2 ?c3 ?c4 ?c5 ?_)
            case c2 => exact ⟨rfl, rfl, rfl⟩
            case c3 => unfold maxLen; omega
            case c4 => omega
            case c5 => omega
            intro v' w3 hown' hgrow _
            obtain ⟨a2, cc2, rfl⟩ := own_shape hown'
            have hq4 := (hq3.alloc (show w1.heap.size + 1 ≤ _ by simp; omega) (.cells #[.int .i64 r.k, .int .i64 r.t, .string (str r.x)] 43)).grown hgrow (by simp; omega) (fun g hg => (hown4.lt g hg).1)
            have hT4 : Whole w3 w1.heap.size 24 (bvc ⟨k, p, e, q, ls⟩ a cc) := (hq4.block w1.heap.size (Nat.lt_succ_self _)).trans hT3
            have hb5 := hb3.trans (hq4.mono (Nat.le_succ _))
            have hown5 : w3.ownsRow (w1.heap.size + 1) 43 3 (.slice a2 (ls ++ [r]).length cc2) (ls ++ [r]).length (recCells (ls ++ [r])) := by
              rw [recCells_snoc, List.length_append]; exact hown'
            have hT5 : Whole (w3.setCell ⟨w1.heap.size, 4, none⟩ (.slice a2 (ls.length + 1) cc2)) w1.heap.size 24 (bvc ⟨k, p, e, q, ls ++ [r]⟩ a2 cc2) := by
              have := hT4.set 4 (.slice a2 (ls.length + 1) cc2)
              simpa [bvc] using this
            have hts : (str t).size ≤ 140737488355328 := by rw [str_size]; rw [toList_length] at hsz; omega
            have hms : (str t).size < x.size := by rw [str_size]; rw [toList_length] at hsz; exact hsz
            have T5 := Lib.hid hT5
            obtain ⟨c0, c1, c2, c3, c4, f0, f1, f2, f3, f4, lt⟩ := Whole.fives (b := ⟨k, p, e, q, ls⟩) hT4
            clear hown' hgrow hT4 hq4 hq3 hown4 hT3 hT5 hsz n0 n1 n2 m0 m1 m2 lt2
            go_wp2_with fail
            go_roundw
            case rel => exact ⟨str t, ls ++ [r], a2, cc2, rfl, hts, by simp; omega, T5.out, own_set hown5 _ _ (Nat.lt_succ_self _), hb5.setCell (p := ⟨w1.heap.size, 4, none⟩) (Nat.le_refl _) _, Lib.hid (by rw [str_toList]; exact HL2.out)⟩
            case measure => exact hms
        · obtain hlN : ls.length = N := by omega
          have hd := HL.out.done hlN
          have HX := Lib.hid hb
          have B3 := B1.trans (hb.mono B1.size)
          have hR3 := R1.keep hb
          have hwlt : w.heap.size < wo.heap.size := hR3.lt
          have hwne : w.heap.size < w1.heap.size := R1.lt
          by_cases hxe : x.data.toList = []
          · rw [hxe] at hd
            obtain rfl : x = str [] := by rw [← hxe, str_data]
            have hL := own_sln hown
            have HO := Lib.hid hown
            by_cases hm : MayB ⟨k, p, e, q, ls⟩
            · obtain rfl := UM.out ls hd hm
              have HC0 := fun w hl hB => bcheck_walk ⟨k, p, e, q, ls⟩ a cc wo.heap.size w 0 (.inl ⟨hm, rfl⟩) hl hB
              simp only [bv, bvc, hlN] at HC0
              have HC := Lib.hid HC0
              clear HC0
              clear UM UF UR UN hd hm HL
              rw [hs0]
              go_wp2_with fail
              go_quiet (fail)
              go_wp2_with fail
              refine (HC.out _ (hL.below (below_drewN _ _ _) (Nat.le_refl _)) (Nat.le_refl _)).mono ?_
              rintro y w2 ⟨rfl, g2⟩
              have g3 : Below wo.heap.size wo w2 := (below_drewN _ wo nq).trans g2
              have B4 := B3.trans (g3.mono B3.size)
              obtain ⟨c0, c1, c2, c3, c4, lt1⟩ := Whole.five (b := ⟨k, p, e, q, ls⟩) (hT.keep g3)
              obtain ⟨d0, d1, d2, d3, d4, f0, f1, f2, f3, f4, lt⟩ := (hR3.keep g3).fives
              have ho2 := own_setFive (own_keep HO.out g3) w.heap.size (by omega) (.int .i64 k) (.int .i64 p) (.int .i64 e) (.int .i64 q) (.slice a N cc)
              have B5 := below_setFive B4 (Nat.le_refl w.heap.size) (.int .i64 k) (.int .i64 p) (.int .i64 e) (.int .i64 q) (.slice a N cc)
              simp only [hlN] at c4
              simp only at c0 c1 c2 c3
              go_wp2_with fail
              refine bodyPost_ret (v := .tuple #[bv ⟨k, p, e, q, ls⟩ a cc, .int .i64 0]) (by simp [results, Try.results24, go_sem, d0, d1, d2, d3, d4, bv, bvc, hlN]) rfl ⟨?_, .inr ⟨⟨k, p, e, q, ls⟩, a, cc, rfl, rfl, ?_⟩⟩
              · exact B5
              · have := own_sln (hlN ▸ ho2)
                exact this
            · obtain rfl := UN.out ls hd hm
              have HC0 := fun w hl hB => bcheck_walk ⟨k, p, e, q, ls⟩ a cc wo.heap.size w 1 (.inr ⟨hm, rfl⟩) hl hB
              simp only [bv, bvc, hlN] at HC0
              have HC := Lib.hid HC0
              clear HC0
              clear UM UF UR UN hd hm HL
              rw [hs0]
              go_wp2_with fail
              go_quiet (fail)
              go_wp2_with fail
              refine (HC.out _ (hL.below (below_drewN _ _ _) (Nat.le_refl _)) (Nat.le_refl _)).mono ?_
              rintro y w2 ⟨rfl, g2⟩
              have g3 : Below wo.heap.size wo w2 := (below_drewN _ wo nq).trans g2
              have B4 := B3.trans (g3.mono B3.size)
              obtain ⟨d0, d1, d2, d3, d4, f0, f1, f2, f3, f4, lt⟩ := (hR3.keep g3).fives
              go_wp2_with fail
              refine bodyPost_ret (v := .tuple #[bv zb none 0, .int .i64 2]) (by simp [results, Try.results24, go_sem, d0, d1, d2, d3, d4, bv, bvc, zb]) rfl ⟨?_, .inl ⟨rfl, rfl⟩⟩
              exact below_setFive B4 (Nat.le_refl _) _ _ _ _ _
          · obtain rfl := UR.out ls _ hd hxe
            clear UM UF UR UN hd HL
            have hie : x.toList.isEmpty = false := by
              rw [ByteArray.toList_eq]
              cases hh : x.data.toList with
              | nil => exact absurd hh hxe
              | cons y l => rfl
            obtain ⟨d0, d1, d2, d3, d4, f0, f1, f2, f3, f4, lt⟩ := hR3.fives
            clear hxe
            go_wp2_with fail
            go_quiet (fail)
            go_wp2_with fail
            refine bodyPost_ret (v := .tuple #[bv zb none 0, .int .i64 2]) (by simp [results, Try.results24, go_sem, d0, d1, d2, d3, d4, bv, bvc, zb]) rfl ⟨?_, .inl ⟨rfl, rfl⟩⟩
            exact below_setFive (B3.trans (below_drewN _ _ _)) (Nat.le_refl _) _ _ _ _ _
end Go.Proofs.Ytdeenkpkcibebaa
