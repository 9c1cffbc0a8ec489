/- The walk of headgateref06.Decode. -/
import Derived.Test.YtdeenkpkcibebaaBatMath
import Derived.Test.YtdeenkpkcibebaaRefBatMay
import Derived.Test.YtdeenkpkcibebaaRefTakeAll
import Derived.Deep.RegionHeld3
namespace Go.Proofs.Ytdeenkpkcibebaa
open Go.RowKit Vm Bm
set_option linter.unusedVariables false

theorem ref_none_at (s : ByteArray) (N : Int) (n : Nat) (hN : N = (n : Int)) (w : World) (hs : s.size ≤ 140737488355328) (hn : n ≤ 64) (h : takeN n s.data.toList = none) :
    Calls Try.prog 53 #[.string s, .int .i64 N] w fun e w' => e = .returned (.tuple #[.slice none 0 0, .string ⟨#[]⟩, .int .i64 2]) ∧ Below w.heap.size w w' := by
  subst hN; exact ref_take_all_none s n w hs hn h
theorem ref_some_at (s : ByteArray) (N : Int) (n : Nat) (hN : N = (n : Int)) (vs : List Int) (r : List UInt8) (w : World) (hs : s.size ≤ 140737488355328) (hn : n ≤ 64) (h : takeN n s.data.toList = some (vs, r)) :
    Calls Try.prog 53 #[.string s, .int .i64 N] w fun e w' => ∃ a c, e = .returned (.tuple #[.slice a vs.length c, .string (str r), .int .i64 0]) ∧ w'.ownsRow w.heap.size 3 1 (.slice a vs.length c) vs.length (i64s vs) ∧ Below w.heap.size w w' := by
  subst hN; exact ref_take_all_some s n vs r w hs hn h

set_option maxRecDepth 100000 in
set_option maxHeartbeats 4000000 in
theorem rbdec_walk (s : ByteArray) (w : World) (o : Option Bat) (ho : o = unbatL s.data.toList) (hs : s.size ≤ 140737488355328) :
    Calls Try.prog 25 #[.string s] w (BPost w o) := by
  have HO := Lib.hid ho
  clear ho
  have R0 := Lib.hid ((Whole.new w 24 (bvc zb none 0)).keep ((Below.refl _ _).alloc (Nat.le_refl _) (.cells (bvc zb none 0) 24)))
  have Z0 := Lib.hid (show Whole ((w.alloc (.cells (bvc zb none 0) 24)).alloc (.cells (bvc zb none 0) 24)) (w.heap.size + 1) 24 (bvc zb none 0) by
    have := Whole.new (w.alloc (.cells (bvc zb none 0) 24)) 24 (bvc zb none 0)
    rwa [World.size_alloc] at this)
  have B0 : Below w.heap.size w ((w.alloc (.cells (bvc zb none 0) 24)).alloc (.cells (bvc zb none 0) 24)) := ((Below.refl _ _).alloc (Nat.le_refl _) _).alloc (by simp) _
  have hs0 : str [] = ⟨#[]⟩ := rfl
  obtain ⟨i0, hi, hz0, hz1, hz2⟩ := info_parts info_rec
  cases hT : takeN 5 s.data.toList with
  | none =>
    obtain rfl : o = none := by rw [HO.out]; exact unbat_n hT
    have HT := Lib.hid hT
    clear hT HO
    go_enter Try.func25, Try.ntmps25
    go_wp2_with fail
    refine (ref_none_at s 5 5 rfl _ hs (by omega) HT.out).mono ?_
    rintro e w1 ⟨rfl, g1⟩
    have B1 := B0.trans (g1.mono B0.size)
    obtain ⟨c0, c1, c2, c3, c4, f0, f1, f2, f3, f4, lt⟩ := (R0.out.keep g1).fives
    obtain ⟨n0, n1, n2, n3, n4, lt2⟩ := (Z0.out.keep g1).five
    clear g1 B0
    simp only [zb] at c0 c1 c2 c3 c4 n0 n1 n2 n3 n4
    go_wp2_with fail
    refine bodyPost_ret (v := .tuple #[bv zb none 0, .int .i64 2]) (by simp [results, Try.results25, go_sem, c0, c1, c2, c3, c4, bv, bvc, zb]) rfl ⟨?_, .inl ⟨rfl, rfl⟩⟩
    exact below_setFive B1 (Nat.le_refl _) _ _ _ _ _
  | some vr =>
    obtain ⟨vs, r1⟩ := vr
    obtain ⟨k, p, e, q, n, rfl⟩ := five_nums hT
    have hr1 : (str r1).size ≤ 140737488355328 := by
      have e1 := congrArg List.length (takeN_tail hT).2
      rw [List.length_append, toList_length] at e1
      rw [str_size]; omega
    have HT := Lib.hid hT
    have UB := Lib.hid (show n < 0 ∨ 64 < n → o = none from fun hn => by rw [HO.out]; exact unbat_bad hT hn)
    have UF := Lib.hid (show ∀ N : Nat, n = (N : Int) → N ≤ 64 → takeRs N r1 = none → o = none from fun N hn hN h => by subst hn; rw [HO.out]; exact unbat_fail hT hN h)
    have UR := Lib.hid (show ∀ N : Nat, n = (N : Int) → N ≤ 64 → ∀ l t, takeRs N r1 = some (l, t) → t ≠ [] → o = none from fun N hn hN l t h ht => by subst hn; rw [HO.out]; exact unbat_rest hT hN h ht)
    have UN := Lib.hid (show ∀ N : Nat, n = (N : Int) → N ≤ 64 → ∀ l, takeRs N r1 = some (l, []) → ¬ MayB ⟨k, p, e, q, l⟩ → o = none from fun N hn hN l h ht => by subst hn; rw [HO.out]; exact unbat_not hT hN h ht)
    have UM := Lib.hid (show ∀ N : Nat, n = (N : Int) → N ≤ 64 → ∀ l, takeRs N r1 = some (l, []) → MayB ⟨k, p, e, q, l⟩ → o = some ⟨k, p, e, q, l⟩ from fun N hn hN l h ht => by subst hn; rw [HO.out]; exact unbat_may hT hN h ht)
    clear hT HO
    go_enter Try.func25, Try.ntmps25
    go_wp2_with fail
    refine (ref_some_at s 5 5 rfl [k, p, e, q, n] r1 _ hs (by omega) HT.out).mono ?_
    rintro x w1 ⟨a, c, rfl, o1, g1⟩
    have B1 := B0.trans (g1.mono B0.size)
    have R1 := R0.out.keep g1
    have Z1 := Z0.out.keep g1
    have sl := own_sl o1
    obtain ⟨b1, x1, rfl, l1, k4⟩ := sl.at (j := 4) (by simp [i64s])
    obtain ⟨b2, x2, e2, l2, k0⟩ := sl.at (j := 0) (by simp [i64s])
    obtain ⟨rfl, rfl⟩ : b1 = b2 ∧ x1 = x2 := by simpa using e2
    obtain ⟨b2, x2, e2, l2, k1⟩ := sl.at (j := 1) (by simp [i64s])
    obtain ⟨rfl, rfl⟩ : b1 = b2 ∧ x1 = x2 := by simpa using e2
    obtain ⟨b2, x2, e2, l2, k2⟩ := sl.at (j := 2) (by simp [i64s])
    obtain ⟨rfl, rfl⟩ : b1 = b2 ∧ x1 = x2 := by simpa using e2
    obtain ⟨b2, x2, e2, l2, k3⟩ := sl.at (j := 3) (by simp [i64s])
    obtain ⟨rfl, rfl⟩ : b1 = b2 ∧ x1 = x2 := by simpa using e2
    simp [i64s] at k0 k1 k2 k3 k4
    clear g1 B0 o1 sl e2 R0 Z0 l2
    go_wp2_with fail
    have hS0 : w1.drew.cell? ⟨b1, x1, none⟩ = some (.int .i64 k) ∧ w1.drew.cell? ⟨b1, x1 + 1, none⟩ = some (.int .i64 p) ∧ w1.drew.cell? ⟨b1, x1 + 2, none⟩ = some (.int .i64 e) ∧ w1.drew.cell? ⟨b1, x1 + 3, none⟩ = some (.int .i64 q) := ⟨k0, k1, k2, k3⟩
    go_region_held3 (fun w' => w'.cell? ⟨b1, x1, none⟩ = some (.int .i64 k) ∧ w'.cell? ⟨b1, x1 + 1, none⟩ = some (.int .i64 p) ∧ w'.cell? ⟨b1, x1 + 2, none⟩ = some (.int .i64 e) ∧ w'.cell? ⟨b1, x1 + 3, none⟩ = some (.int .i64 q))
      (first | with_reducible assumption | (refine ⟨?_, ?_, ?_, ?_⟩ <;> (refine (World.cell?_alloc_past _ _ _ ?_).trans ?_ <;> with_reducible assumption)))
      (first | fail | fail)
    obtain ⟨V, hV⟩ : ∃ V, V = (w1.alloc (.cells #[.int .i64 k, .int .i64 p, .int .i64 e, .int .i64 q, .slice none 0 0] 24)).drew := ⟨_, rfl⟩
    rw [← hV]
    have T0 : Whole V w1.heap.size 24 (bvc ⟨k, p, e, q, []⟩ none 0) := by rw [hV]; exact Whole.new w1 24 _
    have B2 : Below w1.heap.size w1 V := by rw [hV]; exact ((Below.refl _ _).alloc (Nat.le_refl _) _).drew
    have z2 : w1.heap.size < V.heap.size := by rw [hV]; simp
    clear hV hS0 k0 k1 k2 k3
    by_cases hn : n < 0 ∨ 64 < n
    · obtain rfl : o = none := UB.out hn
      have hn' : n < 0 ∨ (¬ n < 0 ∧ 64 < n) := by omega
      have m4 := (B2.cell (p := ⟨b1, x1 + 4, none⟩) l1).trans k4
      have hg1 : b1 < V.heap.size := Nat.lt_of_lt_of_le l1 B2.size
      have B3 := B1.trans (B2.mono B1.size)
      obtain ⟨c0, c1, c2, c3, c4, f0, f1, f2, f3, f4, lt⟩ := (R1.keep B2).fives
      obtain ⟨n0, n1, n2, n3, n4, lt2⟩ := (Z1.keep B2).five
      clear UB UF UR UN UM hn R1 Z1 B1 B2 k4
      simp only [zb] at c0 c1 c2 c3 c4 n0 n1 n2 n3 n4
      rcases hn' with q1 | ⟨q0, q1⟩
      all_goals
        go_wp2_with fail
        refine bodyPost_ret (v := .tuple #[bv zb none 0, .int .i64 2]) (by simp [results, Try.results25, go_sem, c0, c1, c2, c3, c4, bv, bvc, zb]) rfl ⟨?_, .inl ⟨rfl, rfl⟩⟩
        exact below_setFive B3 (Nat.le_refl _) _ _ _ _ _
    · obtain ⟨N, rfl⟩ := Int.eq_ofNat_of_zero_le (show 0 ≤ n by omega)
      have hN : N ≤ 64 := by omega
      have UF := Lib.hid (UF.out N rfl hN)
      have UR := Lib.hid (UR.out N rfl hN)
      have UN := Lib.hid (UN.out N rfl hN)
      have UM := Lib.hid (UM.out N rfl hN)
      have hn0 : ¬ ((N : Int) < 0) := by omega
      have hn1 : ¬ (64 < (N : Int)) := by omega
      have m4 := (B2.cell (p := ⟨b1, x1 + 4, none⟩) l1).trans k4
      have hg1 : b1 < V.heap.size := Nat.lt_of_lt_of_le l1 B2.size
      clear hn UB
      go_wp2_with fail
      clear m4 hg1
      go_loopw [6, 9] (fun t i wr => ∃ (x : ByteArray) (ls : List Rec) (a : Option Addr) (c : Nat), t = .string x ∧ i = .int .i64 ls.length ∧ x.size ≤ 140737488355328 ∧ ls.length ≤ N ∧ Whole wr w1.heap.size 24 (bvc ⟨k, p, e, q, ls⟩ a c) ∧ wr.ownsRow (w1.heap.size + 1) 43 3 (.slice a ls.length c) ls.length (recCells ls) ∧ Below w1.heap.size w1 wr ∧ Hid (Left6 r1 N ls x.data.toList)) (fun t i _ => match t with | .string x => x.size | _ => 0)
      case atStart => exact ⟨str r1, [], none, 0, rfl, rfl, hr1, Nat.zero_le _, T0, World.ownsRow_nil _ _ _ _, B2, Lib.hid (by rw [str_toList]; exact Left6.start _ _)⟩
      case round =>
        obtain ⟨x, ls, a, cc, rfl, rfl, hx, hll, hT, hown, hb, HL⟩ := hrel
        clear T0 B2 z2 hr1
        obtain ⟨wo, rfl⟩ : ∃ wo : World, wo = wr := ⟨_, rfl⟩
        obtain ⟨c0, c1, c2, c3, c4, hg⟩ := Whole.five (b := ⟨k, p, e, q, ls⟩) hT
        have m4 := (hb.cell (p := ⟨b1, x1 + 4, none⟩) l1).trans k4
        have hg1 : b1 < wo.heap.size := Nat.lt_of_lt_of_le l1 hb.size
        simp only at c0 c1 c2 c3 c4
        have hwlt : w.heap.size < wo.heap.size := by have := R1.lt; omega
        have hwlt1 : w.heap.size + 1 < wo.heap.size := by have := Z1.lt; omega
        have hwne : w.heap.size < w1.heap.size := R1.lt
        have hwne1 : w.heap.size + 1 < w1.heap.size := Z1.lt
        by_cases hlt : (ls.length : Int) < (N : Int)
        · have hne : ∀ g, (Value.slice a ls.length cc).ownBlock = some g → g < wo.heap.size := fun g hg => (hown.lt g hg).2
          go_wp2_with fail
          refine (ref_take_rec_walk x _ hx).mono ?_
          cases hR : takeR x.data.toList with
          | none =>
            rw [recA_none hR]
            obtain rfl : o = none := UF.out (HL.out.fail (by omega) hR)
            clear UF UR UN UM HL hR
            rintro y w2 ⟨rfl, g2⟩
            have hb3 := hb.trans (g2.mono hb.size)
            have hb4 := B1.trans (hb3.mono B1.size)
            have X := Box3.start w2 (.int .i64 0) (.int .i64 0) (.string ⟨#[]⟩) 43
            have hal : Below w2.heap.size w2 (w2.alloc (.cells #[.int .i64 0, .int .i64 0, .string ⟨#[]⟩] 43)) := (Below.refl _ _).alloc (Nat.le_refl _) _
            have hb5 := hb4.trans (hal.mono hb4.size)
            clear c0 c1 c2 c3 c4
            obtain ⟨c0, c1, c2, c3, c4, f0, f1, f2, f3, f4, lt⟩ := ((R1.keep hb3).keep hal).fives
            obtain ⟨n0, n1, n2, n3, n4, lt2⟩ := ((Z1.keep hb3).keep hal).five
            simp only [zb] at c0 c1 c2 c3 c4 n0 n1 n2 n3 n4
            simp only [rv, zr, hs0]
            clear hb hb3 g2 hal X m4
            go_wp2_with fail
            refine bodyPost_ret (v := .tuple #[bv zb none 0, .int .i64 2]) (by simp [results, Try.results25, go_sem, c0, c1, c2, c3, c4, bv, bvc, zb]) rfl ⟨?_, .inl ⟨rfl, rfl⟩⟩
            exact below_setFive hb5 (Nat.le_refl _) _ _ _ _ _
          | some rt =>
            obtain ⟨r, t⟩ := rt
            rw [recA_some hR]
            have hsz := takeR_size hR
            have HL2 := Lib.hid (HL.out.step (by omega) hR)
            clear HL hR
            rintro y w2 ⟨rfl, g2⟩
            have hb3 := hb.trans (g2.mono hb.size)
            have hTw := hT.keep g2
            have hT3 := (hT.keep g2).keep ((Below.refl _ _).alloc (Nat.le_refl _) (.cells #[.int .i64 r.k, .int .i64 r.t, .string (str r.x)] 43))
            have hown4 := (own_keep hown g2).alloc (.cells #[.int .i64 r.k, .int .i64 r.t, .string (str r.x)] 43)
            have hq3 := (Below.refl (w1.heap.size + 1) w2).alloc (by have := g2.size; omega) (.cells #[.int .i64 r.k, .int .i64 r.t, .string (str r.x)] 43)
            have hws := g2.size
            clear c0 c1 c2 c3 c4
            obtain ⟨c0, c1, c2, c3, c4, f0, f1, f2, f3, f4, lt⟩ := Whole.fives (b := ⟨k, p, e, q, ls⟩) hT3
            simp only at c0 c1 c2 c3 c4
            clear g2 hT hown hb m4
            simp only [rv]
            go_wp2_with (at_builtin; refine wpList_append_own _ rfl _ _ 22 rfl (w1.heap.size + 1) 43 i0 (.agg #[.int .i64 0, .int .i64 0, .string ⟨#[]⟩]) 3 32 Try.underlying22 hi hz0 hz1 hz2 rfl (by decide) _ _ _ rfl (hown4.alloc _) ⟨w2.heap.size + 1, 0, none⟩ 1 1 [.int .i64 r.k, .int .i64 r.t, .string (str r.x)] rfl rfl ?c1 ?c2 ?c3 ?c4 ?c5 ?_)
            case c1 =>
              intro j u hj
              match j, hj with
              | 0, hj => simp at hj; subst hj; simp [Addr.add]
              | 1, hj => simp at hj; subst hj; simp [Addr.add]
              | 2, hj => simp at hj; subst hj; simp [Addr.add]
            case c2 =>
              intro u hu
              simp at hu
              rcases hu with rfl | rfl | rfl <;> rfl
            case c3 => unfold maxLen; omega
            case c4 => omega
            case c5 =>
              rw [World.size_alloc, World.size_alloc]; omega
            intro v' w3 hown' hgrow _
            obtain ⟨a2, cc2, rfl⟩ := own_shape hown'
            have hq4 := (hq3.alloc (show w1.heap.size + 1 ≤ _ by simp; omega) (.cells #[.int .i64 r.k, .int .i64 r.t, .string (str r.x)] 43)).grown hgrow (by simp; omega) (fun g hg => (hown4.lt g hg).1)
            have hT4 : Whole w3 w1.heap.size 24 (bvc ⟨k, p, e, q, ls⟩ a cc) := (hq4.block w1.heap.size (Nat.lt_succ_self _)).trans hTw
            have hb5 := hb3.trans (hq4.mono (Nat.le_succ _))
            have hown5 : w3.ownsRow (w1.heap.size + 1) 43 3 (.slice a2 (ls ++ [r]).length cc2) (ls ++ [r]).length (recCells (ls ++ [r])) := by
              rw [recCells_snoc, List.length_append]; exact hown'
            have hT5 : Whole (w3.setCell ⟨w1.heap.size, 4, none⟩ (.slice a2 (ls.length + 1) cc2)) w1.heap.size 24 (bvc ⟨k, p, e, q, ls ++ [r]⟩ a2 cc2) := by
              have := hT4.set 4 (.slice a2 (ls.length + 1) cc2)
              simpa [bvc] using this
            have hts : (str t).size ≤ 140737488355328 := by rw [str_size]; rw [toList_length] at hsz; omega
            have hms : (str t).size < x.size := by rw [str_size]; rw [toList_length] at hsz; exact hsz
            have T5 := Lib.hid hT5
            clear c0 c1 c2 c3 c4 f0 f1 f2 f3 f4 lt
            obtain ⟨c0, c1, c2, c3, c4, f0, f1, f2, f3, f4, lt⟩ := Whole.fives (b := ⟨k, p, e, q, ls⟩) hT4
            clear hown' hgrow hT4 hq4 hq3 hown4 hT3 hT5 hsz
            go_wp2_with fail
            go_roundw
            case rel => exact ⟨str t, ls ++ [r], a2, cc2, rfl, by simp, hts, by simp; omega, T5.out, own_set hown5 _ _ (Nat.lt_succ_self _), hb5.setCell (p := ⟨w1.heap.size, 4, none⟩) (Nat.le_refl _) _, Lib.hid (by rw [str_toList]; exact HL2.out)⟩
            case measure => exact hms
        · obtain hlN : ls.length = N := by omega
          have hd := HL.out.done hlN
          have B3 := B1.trans (hb.mono B1.size)
          by_cases hxe : x.data.toList = []
          · rw [hxe] at hd
            obtain rfl : x = str [] := by rw [← hxe, str_data]
            have hL := own_sln hown
            have HO := Lib.hid hown
            by_cases hm : MayB ⟨k, p, e, q, ls⟩
            · obtain rfl := UM.out ls hd hm
              have HC0 := fun w hl hB => rmay_walk ⟨k, p, e, q, ls⟩ a cc wo.heap.size w true ⟨fun _ => hm, fun _ => rfl⟩ hl hB
              simp only [bv, bvc, hlN] at HC0
              have HC := Lib.hid HC0
              clear HC0 UM UF UR UN hd hm HL
              rw [hs0]
              go_wp2_with fail
              refine (HC.out _ hL (Nat.le_refl _)).mono ?_
              rintro y w2 ⟨rfl, g3⟩
              have B4 := B3.trans (g3.mono B3.size)
              clear c0 c1 c2 c3 c4
              obtain ⟨c0, c1, c2, c3, c4, lt1⟩ := Whole.five (b := ⟨k, p, e, q, ls⟩) (hT.keep g3)
              obtain ⟨d0, d1, d2, d3, d4, f0, f1, f2, f3, f4, lt⟩ := ((R1.keep hb).keep g3).fives
              have ho2 := own_setFive (own_keep HO.out g3) w.heap.size (by omega) (.int .i64 k) (.int .i64 p) (.int .i64 e) (.int .i64 q) (.slice a N cc)
              have B5 := below_setFive B4 (Nat.le_refl w.heap.size) (.int .i64 k) (.int .i64 p) (.int .i64 e) (.int .i64 q) (.slice a N cc)
              simp only [hlN] at c4
              simp only at c0 c1 c2 c3
              go_wp2_with fail
              refine bodyPost_ret (v := .tuple #[bv ⟨k, p, e, q, ls⟩ a cc, .int .i64 0]) (by simp [results, Try.results25, go_sem, d0, d1, d2, d3, d4, bv, bvc, hlN]) rfl ⟨?_, .inr ⟨⟨k, p, e, q, ls⟩, a, cc, rfl, rfl, ?_⟩⟩
              · exact B5
              · have := own_sln (hlN ▸ ho2)
                exact this
            · obtain rfl := UN.out ls hd hm
              have HC0 := fun w hl hB => rmay_walk ⟨k, p, e, q, ls⟩ a cc wo.heap.size w false ⟨fun h => (by cases h), fun h => absurd h hm⟩ hl hB
              simp only [bv, bvc, hlN] at HC0
              have HC := Lib.hid HC0
              clear HC0 UM UF UR UN hd hm HL
              rw [hs0]
              go_wp2_with fail
              refine (HC.out _ hL (Nat.le_refl _)).mono ?_
              rintro y w2 ⟨rfl, g3⟩
              have B4 := B3.trans (g3.mono B3.size)
              clear c0 c1 c2 c3 c4
              obtain ⟨d0, d1, d2, d3, d4, f0, f1, f2, f3, f4, lt⟩ := ((R1.keep hb).keep g3).fives
              obtain ⟨n0, n1, n2, n3, n4, lt2⟩ := ((Z1.keep hb).keep g3).five
              simp only [zb] at d0 d1 d2 d3 d4 n0 n1 n2 n3 n4
              go_wp2_with fail
              refine bodyPost_ret (v := .tuple #[bv zb none 0, .int .i64 2]) (by simp [results, Try.results25, go_sem, d0, d1, d2, d3, d4, bv, bvc, zb]) rfl ⟨?_, .inl ⟨rfl, rfl⟩⟩
              exact below_setFive B4 (Nat.le_refl _) _ _ _ _ _
          · obtain rfl := UR.out ls _ hd hxe
            have hxl : 0 < (x.size : Int) := by
              rw [← toList_length]
              cases hh : x.data.toList with
              | nil => exact absurd hh hxe
              | cons y l => simp
            have hxb : ¬ x = ByteArray.empty := fun h => hxe (by rw [h]; rfl)
            have hxp : 0 < x.size := by omega
            clear UM UF UR UN hd HL c0 c1 c2 c3 c4
            obtain ⟨d0, d1, d2, d3, d4, f0, f1, f2, f3, f4, lt⟩ := (R1.keep hb).fives
            obtain ⟨n0, n1, n2, n3, n4, lt2⟩ := (Z1.keep hb).five
            simp only [zb] at d0 d1 d2 d3 d4 n0 n1 n2 n3 n4
            clear hxe
            go_wp2_with fail
            refine bodyPost_ret (v := .tuple #[bv zb none 0, .int .i64 2]) (by simp [results, Try.results25, go_sem, d0, d1, d2, d3, d4, bv, bvc, zb]) rfl ⟨?_, .inl ⟨rfl, rfl⟩⟩
            exact below_setFive B3 (Nat.le_refl _) _ _ _ _ _
end Go.Proofs.Ytdeenkpkcibebaa
