/- The walk of the statement SketchParts of layer 29. -/
import Derived.Test.YtbljhmcenjmjjaaBkTell
import Derived.Test.YtbljhmcenjmjjaaLSketchAdds
namespace Go.Proofs.Ytbljhmcenjmjjaa
open Go.RowKit Vm Sk
set_option linter.unusedVariables false

theorem cut_num29 {t : Int} {N : Nat} (hN : N ≤ 200) : ∃ k : Nat, k ≤ N ∧ (t.tmod ((N : Int) + 1) + (N : Int) + 1).tmod ((N : Int) + 1) = (k : Int) ∧ 0 ≤ t.tmod ((N : Int) + 1) + (N : Int) + 1 ∧ t.tmod ((N : Int) + 1) + (N : Int) + 1 ≤ 700 ∧ -201 < t.tmod ((N : Int) + 1) ∧ t.tmod ((N : Int) + 1) < 201 := by
  have h1 := Int.lt_tmod_of_pos t (show (0 : Int) < (N : Int) + 1 by omega)
  have h2 := Int.tmod_lt_of_pos t (show (0 : Int) < (N : Int) + 1 by omega)
  have h3 : 0 ≤ t.tmod ((N : Int) + 1) + (N : Int) + 1 := by omega
  have h4 := Int.emod_lt_of_pos (t.tmod ((N : Int) + 1) + (N : Int) + 1) (show (0 : Int) < (N : Int) + 1 by omega)
  have h5 := Int.emod_nonneg (t.tmod ((N : Int) + 1) + (N : Int) + 1) (show ((N : Int) + 1) ≠ 0 by omega)
  refine ⟨((t.tmod ((N : Int) + 1) + (N : Int) + 1) % ((N : Int) + 1)).toNat, by omega, ?_, h3, by omega, by omega, by omega⟩
  rw [Int.tmod_eq_emod_of_nonneg h3]; omega
theorem add_nil (vs : List Int) (M : Nat) (a : Option Addr) (c : Nat) (w : World) (hM : vs.length = M) (hn : M ≤ 200) (hv : ∀ v ∈ vs, I64 v) (h : Sl w w.heap.size a (i64s vs)) :
    Calls Try.prog 18 #[.slice none 0 0, .slice a M c] w fun e w' => ∃ a' c', e = .returned (.tuple #[.slice a' (addB [] vs).length c', .int .i64 0]) ∧ Sl w' w'.heap.size a' (bkCells (addB [] vs)) ∧ Below w.heap.size w w' := by
  have := badd_walk [] vs 0 M none a 0 c w.heap.size w (addB [] vs) 0 rfl hM (by omega) hn hv (adIs_nil (by omega)) (.inl rfl) h (Nat.le_refl _)
  unfold MgPost at this
  exact this
theorem sl_drop29 {w : World} {B b off : Nat} {vs : List Int} (k : Nat) (h : Sl w B (some ⟨b, off, none⟩) (i64s vs)) : Sl w B (some ⟨b, off + k, none⟩) (i64s (vs.drop k)) := by
  rcases h with h | ⟨b', off', e, hlt, hc⟩
  · left
    unfold i64s at h ⊢
    rw [List.map_drop, h]; simp
  · injection e with e
    injection e with e1 e2 _
    subst e1 e2
    refine .inr ⟨_, _, rfl, hlt, fun j u hu => ?_⟩
    unfold i64s at hu
    rw [List.map_drop, List.getElem?_drop] at hu
    have := hc _ u hu
    rw [← this]; congr 2; omega
theorem drop_one {vs : List Int} {j : Nat} (h1 : 1 ≤ j) (h : j ≤ vs.length) : (vs.drop (j - 1)).reverse = (vs.drop j).reverse ++ [vs[j - 1]'(by omega)] := by
  rw [List.drop_eq_getElem_cons (i := j - 1) (by omega), List.reverse_cons, show j - 1 + 1 = j from by omega]

set_option maxRecDepth 100000 in
set_option maxHeartbeats 4000000 in
theorem sketchParts_law (a : Option Addr) (len cap : Nat) (zs : List Int) (t : Int) (w : World) (hr : IsRow .i64 w a len cap zs) (hcap : cap * 8 ≤ 140737488351232) (ht0 : (Lit.int .i64 t).wf = true) :
    Calls Try.prog 7 #[.slice a len cap, .int .i64 t] w fun e w' => e = .returned (.bool true) ∧ Below w.heap.size w w' := by
  have ht := bounds_i64 ht0
  unfold I64 at ht
  obtain ⟨vs, hvl, hsv, hvi, hlen, hlc⟩ := row_some29 hr
  have HS := Lib.hid (fun w => some29_walk a len cap w hlen hlc)
  obtain ⟨M, hM⟩ : ∃ M, M = min len 200 := ⟨_, rfl⟩
  rw [← hM] at HS hvl
  have hM2 : M ≤ 200 := by omega
  have hMc : M ≤ cap := by omega
  have hac : a = none → cap = 0 := by
    rcases hr with ⟨_, h1, h2, _⟩ | ⟨x, h1, _⟩
    · exact fun _ => h2
    · intro h; rw [h] at h1; cases h1
  clear hr ht0 hlen hlc hM hcap
  obtain ⟨k, hk0, hk1, hk2, hk3, hk4, hk5⟩ := cut_num29 (t := t) hM2
  obtain ⟨hm0, hs0⟩ := addB_may may_nil vs.length vs rfl hvi (by simp [sumN]; omega)
  have hvt : ∀ v ∈ vs.take k, I64 v := fun v hx => hvi v (List.mem_of_mem_take hx)
  have hvd : ∀ v ∈ vs.drop k, I64 v := fun v hx => hvi v (List.mem_of_mem_drop hx)
  have hlt : (vs.take k).length = k := by rw [List.length_take]; omega
  have hld : (vs.drop k).length = M - k := by rw [List.length_drop]; omega
  obtain ⟨hm1, hs1⟩ := addB_may may_nil (vs.take k).length (vs.take k) rfl hvt (by simp [sumN]; omega)
  obtain ⟨hm2, hs2⟩ := addB_may may_nil (vs.drop k).length (vs.drop k) rfl hvd (by simp [sumN]; omega)
  have hn0 := addB_len vs []
  have hn1 := addB_len (vs.take k) []
  have hn2 := addB_len (vs.drop k) []
  rw [hvl] at hs0 hn0
  rw [hlt] at hs1 hn1
  rw [hld] at hs2 hn2
  simp only [List.length_nil, Nat.zero_add] at hn0 hn1 hn2
  rw [sumN_nil, Int.zero_add] at hs0 hs1 hs2
  have H0 := Lib.hid (fun w h => add_nil vs M a cap w hvl hM2 hvi h)
  have H1 := Lib.hid (fun w h => add_nil (vs.take k) k a cap w hlt (by omega) hvt h)
  have H2 := Lib.hid (fun w a' c' h => add_nil (vs.drop k) (M - k) a' c' w hld (by omega) hvd h)
  have H3 := Lib.hid (fun w a' c' h => add_nil vs.reverse M a' c' w (by simp; omega) hM2 (fun v hx => hvi v (List.mem_reverse.1 hx)) h)
  rw [addB_reverse] at H3
  have HM := Lib.hid (fun w a1 c1 a2 c2 h1 h2 => bmerge_walk (addB [] (vs.drop k)) (addB [] (vs.take k)) (addB [] (vs.drop k)).length (addB [] (vs.take k)).length a1 a2 c1 c2 w.heap.size w (addB [] vs) 0 rfl rfl (by omega) (by omega)
    (.inr (.inr ⟨hm2, hm1, by rw [hs1, hs2]; omega, (addB_parts vs k).symm, rfl⟩)) h1 h2 (Nat.le_refl _))
  have S1 := Lib.hid (fun a1 a2 c1 c2 w h1 h2 => same29_walk (addB [] vs) (addB [] vs).length a1 a2 c1 c2 w.heap.size w rfl (by omega) h1 h2 (Nat.le_refl _))
  have HC := Lib.hid (fun w a c h => bk_count_walk (addB [] vs) (addB [] vs).length a c w.heap.size w rfl (by omega) hm0 h (Nat.le_refl _))
  rw [hs0] at HC
  unfold MgPost at HM
  have HV := Lib.hid hvl
  have HVT := Lib.hid (fun w (h : Sl w w.heap.size a (i64s vs)) => (by have := sl_take29 k h; rwa [i64s, ← List.map_take] at this : Sl w w.heap.size a (i64s (vs.take k))))
  have harms : (cap = k ∧ Hid (∀ w a', Sl w w.heap.size a' (i64s (vs.drop k)))) ∨ (¬ cap = k ∧ ∃ ad, a = some ad ∧ Hid (∀ w, Sl w w.heap.size (some ad) (i64s vs) → Sl w w.heap.size (some (ad.add k)) (i64s (vs.drop k)))) := by
    by_cases hck : cap = k
    · left
      have : vs.drop k = [] := List.drop_of_length_le (by rw [HV.out]; omega)
      rw [this]
      exact ⟨hck, Lib.hid (fun w a' => .inl rfl)⟩
    · right
      refine ⟨hck, ?_⟩
      cases a with
      | none => have := hac rfl; omega
      | some ad =>
        refine ⟨ad, rfl, Lib.hid (fun w h => ?_)⟩
        rcases h with h | ⟨b, off, e, hlt, hc⟩
        · have h0 : vs = [] := by unfold i64s at h; exact List.map_eq_nil_iff.1 h
          rw [h0]; exact .inl (by simp [i64s])
        · injection e with e
          subst e
          rw [add_at]
          exact sl_drop29 k (.inr ⟨b, off, rfl, hlt, hc⟩)
  have hload : Hid (∀ (w : World) j, j < M → Sl w w.heap.size a (i64s vs) → ∃ ad x, a = some ad ∧ w.cell? (ad.add j) = some (.int .i64 x) ∧ (vs.drop j).reverse = (vs.drop (j + 1)).reverse ++ [x]) := Lib.hid (fun w j hj h => by
    have hj' : j < vs.length := by rw [HV.out]; exact hj
    obtain ⟨b, off, e, hlt, hc⟩ := h.at (j := j) (by rw [i64s_length]; exact hj')
    rw [i64s_at _ _ hj'] at hc
    refine ⟨_, vs[j], e, by rw [add_at]; exact hc, ?_⟩
    rw [List.drop_eq_getElem_cons hj', List.reverse_cons])
  have HL0 := Lib.hid (show (vs.drop M).reverse = [] by rw [List.drop_of_length_le (by rw [HV.out]; exact Nat.le_refl _)]; rfl)
  have HLn := Lib.hid (show ∀ j, j ≤ M → ((vs.drop j).reverse).length = M - j from fun j hj => by rw [List.length_reverse, List.length_drop, HV.out])
  have HR0 := Lib.hid (show (vs.drop 0).reverse = vs.reverse by simp)
  clear hac
  clear hvt hvd hlt hld hm0 hs0 hm1 hs1 hm2 hs2 hn0 hn1 hn2 hvi hvl
  generalize (addB [] vs) = D0 at *
  generalize (addB [] (vs.take k)) = D1 at *
  generalize (addB [] (vs.drop k)) = D2 at *
  obtain ⟨i0, hi, hz0, hz1, hz2⟩ := info_parts info_i64
  go_enter Try.func7, Try.ntmps7
  go_wp2_with fail
  refine (HS.out _).mono ?_
  rintro e w1 ⟨rfl, hw1⟩
  subst w1
  go_wp2_with fail
  refine (H0.out _ hsv).mono ?_
  rintro e w1 ⟨a1, c1, rfl, s1, g1⟩
  have v1 := (hsv.below g1 (Nat.le_refl _)).grow g1.size
  clear hsv
  have hkM : (k : Int) ≤ (cap : Int) := by omega
  go_wp2_with fail
  refine (H1.out _ (HVT.out _ v1)).mono ?_
  rintro e w2 ⟨a2, c2, rfl, s2, g2⟩
  have v2 := (v1.below g2 (Nat.le_refl _)).grow g2.size
  have s1 := (s1.below g2 (Nat.le_refl _)).grow g2.size
  have g2 := gtrans g1 g2
  clear g1 v1
  rcases harms with ⟨hck, HVD⟩ | ⟨hck, ad, rfl, HVD⟩
  all_goals
    go_wp2_with fail
    refine (H2.out _ _ _ (by first | exact HVD.out _ _ | exact HVD.out _ v2)).mono ?_
    rintro e w3 ⟨a3, c3, rfl, s3, g3⟩
    have v3 := (v2.below g3 (Nat.le_refl _)).grow g3.size
    have s1 := (s1.below g3 (Nat.le_refl _)).grow g3.size
    have s2 := (s2.below g3 (Nat.le_refl _)).grow g3.size
    have g3 := gtrans g2 g3
    clear g2 v2 HVD
    go_wp2_with fail
    refine (HM.out _ _ _ _ _ s3 s2).mono ?_
    rintro e w4 ⟨a4, c4, rfl, s4, g4⟩
    have v4 := (v3.below g4 (Nat.le_refl _)).grow g4.size
    have s1 := (s1.below g4 (Nat.le_refl _)).grow g4.size
    have g4 := gtrans g3 g4
    clear g3 v3 s2 s3
    have hwm : IntKind.i64.wrap ((M : Int) - 1) = (M : Int) - 1 := IntWalk.i64_in _ (by omega)
    go_wp2_with fail
    go_loopw [14, 15] (fun T I wr => ∃ (j : Nat) (a' : Option Addr) (c' : Nat), j ≤ M ∧ I = .int .i64 ((j : Int) - 1) ∧ T = .slice a' (M - j) c' ∧ wr.ownsRow w4.heap.size 3 1 (.slice a' (M - j) c') (M - j) (i64s (vs.drop j).reverse) ∧ Below w4.heap.size w4 wr) (fun _ I _ => (intOf I + 1).toNat)
    case atStart => exact ⟨M, none, 0, Nat.le_refl _, rfl, by rw [Nat.sub_self], by rw [HL0.out, Nat.sub_self]; exact World.ownsRow_nil _ _ _ _, Below.refl _ _⟩
    case round =>
      obtain ⟨j, a', c', hj, rfl, rfl, hown, hb⟩ := hrel
      cases j with
      | succ j =>
        obtain ⟨ad', x, had, hx, hrv⟩ := hload.out wr j (by omega) ((v4.below hb (Nat.le_refl _)).grow hb.size)
        have hcast : (((j + 1 : Nat) : Int) - 1) = (j : Int) := by omega
        rw [hcast]
        clear hcast
        have hbz := hb.size
        have hw1 : IntKind.i64.wrap ((j : Int) - 1) = (j : Int) - 1 := IntWalk.i64_in _ (by omega)
        have hjM : j < M := by omega
        have E1 := Lib.hid (show M - (j + 1) + 1 = M - j by omega)
        have HRV := Lib.hid hrv
        clear hrv
        try (injection had with had; subst had)
        try subst had
        go_wp2_with (at_builtin; refine wpList_append_own _ rfl _ _ 31 rfl w4.heap.size 3 i0 (.int .i64 0) 1 8 Try.underlying31 hi hz0 hz1 hz2 rfl (by decide) _ _ _ rfl (hown.alloc _) ⟨wr.heap.size, 0, none⟩ 1 1 [.int .i64 x] rfl rfl ?c1 ?c2 ?c3 ?c4 ?c5 ?_)
        case c1 =>
          intro j u hj
          match j, hj with
          | 0, hj => simp at hj; subst hj; simp [Addr.add]
        case c2 => intro u hu; simp at hu; subst hu; rfl
        case c3 => unfold maxLen; omega
        case c4 => omega
        case c5 => simp; omega
        intro v' w5 hown' hgrow _
        obtain ⟨a5, c5, rfl⟩ := own_shape hown'
        have hb5 := (hb.alloc hb.size _).grown hgrow (by simp; omega) (fun k hk => (hown.lt k hk).1)
        have hown5 : w5.ownsRow w4.heap.size 3 1 (.slice a5 (M - j) c5) (M - j) (i64s (vs.drop j).reverse) := by
          rw [HRV.out, i64s_snoc, ← E1.out]; exact hown'
        clear hown' hgrow hown hb hx
        go_wp2_with fail
        go_roundw
        case rel => exact ⟨j, a5, c5, by omega, rfl, by rw [E1.out], hown5, hb5⟩
        case measure => first | (simp [intOf]; omega) | simp [intOf]
      | zero =>
        have v5 := own_sl hown
        have s1 := (s1.below hb (Nat.le_refl _)).grow hb.size
        have s4 := (s4.below hb (Nat.le_refl _)).grow hb.size
        have g5 := gtrans g4 hb
        rw [HR0.out] at v5
        have hcast : (((0 : Nat) : Int) - 1) = -1 := by omega
        rw [hcast, Nat.sub_zero]
        clear hcast hown hb v4 g4
        go_wp2_with fail
        refine (H3.out _ _ _ v5).mono ?_
        rintro e w6 ⟨a6, c6, rfl, s6, g6⟩
        have s1 := (s1.below g6 (Nat.le_refl _)).grow g6.size
        have s4 := (s4.below g6 (Nat.le_refl _)).grow g6.size
        have g6 := gtrans g5 g6
        clear v5 g5
        go_wp2_with fail
        refine (S1.out _ _ _ _ _ s1 s4).mono ?_
        rintro e w7 ⟨rfl, g7⟩
        have s1 := (s1.below g7 (Nat.le_refl _)).grow g7.size
        have s6 := (s6.below g7 (Nat.le_refl _)).grow g7.size
        have g7 := gtrans g6 g7
        clear g6 s4
        go_wp2_with fail
        refine (S1.out _ _ _ _ _ s1 s6).mono ?_
        rintro e w8 ⟨rfl, g8⟩
        have s1 := (s1.below g8 (Nat.le_refl _)).grow g8.size
        have g8 := gtrans g7 g8
        clear g7 s6
        go_wp2_with fail
        refine (HC.out _ _ _ s1).mono ?_
        rintro e w9 ⟨rfl, g9⟩
        have g9 := gtrans g8 g9
        clear g8 s1
        go_wp2_with fail
        refine (awake29_walk _).mono ?_
        rintro x wz ⟨rfl, gz⟩
        go_wp2_with fail
        go_ret
        exact ⟨rfl, gdrew g9 gz⟩
end Go.Proofs.Ytbljhmcenjmjjaa
