/- The walk of headgatelaw24.few. -/
import Derived.Test.YtkechaniaidieaaDe
namespace Go.Proofs.Ytkechaniaidieaa
open Go.RowKit Vm
set_option linter.unusedVariables false
set_option linter.unusedSimpArgs false

def cutD (x : De) : De := if 300 < x.T.length then { x with T := x.T.take 300 } else x
def fewL (l : List De) : List De := (l.take 80).map cutD
theorem sl_st_take' {w : World} {B : Nat} {a : Option Addr} {T : List (List UInt8)} (h : Sl w B a (stCells T)) (M : Nat) : Sl w B a (stCells (T.take M)) := by
  have e : stCells (T.take M) = (stCells T).take M := by simp [stCells]
  rw [e]
  rcases h with h | ⟨b, o, e, hlt, hc⟩
  · exact .inl (by rw [h]; simp)
  · refine .inr ⟨b, o, e, hlt, fun j u hu => hc j u ?_⟩
    rw [List.getElem?_take] at hu
    split at hu
    · exact hu
    · cases hu
theorem sl_de_take {w : World} {B : Nat} {a : Option Addr} {l : List De} (h : Sl w B a (deCells l)) (M : Nat) : Sl w B a (deCells (l.take M)) := by
  have e : deCells (l.take M) = (deCells l).take (M * 5) := recs_take deOf 5 deOf_len l M
  rw [e]
  rcases h with h | ⟨b, o, e, hlt, hc⟩
  · exact .inl (by rw [h]; simp)
  · refine .inr ⟨b, o, e, hlt, fun j u hu => hc j u ?_⟩
    rw [List.getElem?_take] at hu
    split at hu
    · exact hu
    · cases hu
theorem de_five (a b c d : Int) (v : Option Addr) (n m : Nat) : ∀ u ∈ ([.int .i64 a, .int .i64 b, .int .i64 c, .int .i64 d, .slice v n m] : List Value), u.oneCell' = true := fun v hv => by simp at hv; rcases hv with rfl | rfl | rfl | rfl | rfl <;> rfl
/-- What is kept of the deeds: as many as may be, not too much text. -/
theorem cutD_ok {w : World} {x : De} (h : DeI w x) : DeI w (cutD x) ∧ (cutD x).T.length ≤ 300 := by
  unfold cutD
  split
  · next hl =>
    obtain ⟨h1, h2, h3, h4, h5⟩ := h
    exact ⟨⟨h1, sl_st_take' h2 300, h3, by simp only [List.length_take]; omega, h5⟩, by simp only [List.length_take]; omega⟩
  · next hl => exact ⟨h, by omega⟩
def FewPost (w : World) (F : List De) (e : Ending) (w' : World) : Prop := ∃ a' c', e = .returned (.slice a' F.length c') ∧ w'.ownsRow w.heap.size 32 5 (.slice a' F.length c') F.length (deCells F) ∧ Below w.heap.size w w'
set_option maxRecDepth 100000 in
set_option maxHeartbeats 8000000 in
theorem few_walk (l : List De) (a : Option Addr) (c N0 : Nat) (w : World) (hN0 : l.length = N0) (hl : Sl w w.heap.size a (deCells l)) (hi : ∀ x ∈ l, DeI w x) (hc : (a = none → c = 0) ∧ N0 ≤ c ∧ c ≤ maxLen) :
    Calls Try.prog 9 #[.slice a N0 c] w (FewPost w (fewL l)) := by
  obtain ⟨i0, hi0, hz0, hz1, hz2⟩ := info_parts info_de
  have hcase : ∃ N, ((N0 ≤ 80 ∧ N = N0) ∨ (80 < N0 ∧ N = 80)) := by
    by_cases h : N0 ≤ 80
    · exact ⟨N0, .inl ⟨h, rfl⟩⟩
    · exact ⟨80, .inr ⟨by omega, rfl⟩⟩
  obtain ⟨N, hN⟩ := hcase
  obtain ⟨U, hU⟩ : ∃ U, U = l.take 80 := ⟨_, rfl⟩
  have hUl : U.length = N := by rw [hU, List.length_take, hN0]; omega
  have hUs : Sl w w.heap.size a (deCells U) := by rw [hU]; exact sl_de_take hl 80
  have hUi : ∀ x ∈ U, DeI w x := fun x hx => hi x (by rw [hU] at hx; exact List.mem_of_mem_take hx)
  have HUI := Lib.hid hUi
  have HUl := Lib.hid hUl
  obtain ⟨V, hV⟩ : ∃ V, V = U.map cutD := ⟨_, rfl⟩
  have HFe := Lib.hid (show fewL l = V from by unfold fewL; rw [hV, hU])
  have HVl := Lib.hid (show V.length = N from by rw [hV, List.length_map, hUl])
  have HVg := Lib.hid (show ∀ i, i < U.length → V.getD i de0 = cutD (U.getD i de0) from fun i hi => by rw [hV]; simp [List.getD, hi])
  have hN80 : N ≤ 80 := by omega
  clear hU hV hUl hi hl hUi hN0
  go_enter Try.func9, Try.ntmps9
  rcases hN with ⟨h1, rfl⟩ | ⟨h1, rfl⟩
  · have h2 : ¬ (80 : Int) < (N : Int) := by omega
    go_wp2_with fail
    go_loopw [3, 4] (fun O J wr => ∃ (i : Nat) (a3 : Option Addr) (c3 : Nat), i ≤ N ∧ O = .slice a3 i c3 ∧ J = .int .i64 i ∧ wr.ownsRow w.heap.size 32 5 (.slice a3 i c3) i (deCells (V.take i)) ∧ Below w.heap.size w wr) (fun _ J _ => N - (intOf J).toNat)
    case atStart => exact ⟨0, none, 0, by omega, rfl, rfl, World.ownsRow_nil _ _ _ _, Below.refl _ _⟩
    case round =>
      obtain ⟨i, a3, c3, hiN, rfl, rfl, own, hb⟩ := hrel
      have hbz := hb.size
      by_cases hlt : i < N
      · have hlt2 : (i : Int) < (N : Int) := by omega
        have hi0' : 0 ≤ (i : Int) := by omega
        have hil : i < U.length := by rw [HUl.out]; exact hlt
        have hwi : IntKind.i64.wrap ((i : Int) + 1) = ((i + 1 : Nat) : Int) := by rw [IntWalk.i64_in _ (by omega)]; omega
        obtain ⟨b2, o2, hae, hb2, hct⟩ := (hUs.below hb (Nat.le_refl _)).de (by omega)
        first | subst hae | (injection hae with hae; subst hae)
        obtain ⟨r0, r1, r2, r3, r4⟩ := hct i hil
        have hb2z : b2 < wr.heap.size := by omega
        have hxi := HUI.out _ (getD_mem U de0 i hil)
        have htk := Lib.hid (show V.take (i + 1) = V.take i ++ [cutD (U.getD i de0)] from by rw [take_get V de0 i (by rw [HVl.out]; exact hlt), HVg.out i hil])
        obtain ⟨x, hx⟩ : ∃ x, U.getD i de0 = x := ⟨_, rfl⟩
        rw [hx] at r0 r1 r2 r3 r4 hxi
        have HX := Lib.hid hx
        clear hx hct
        obtain ⟨xk, xn, xd, xf, xT, xa, xc⟩ := x
        simp only at r0 r1 r2 r3 r4 hxi
        by_cases hlong : 300 < xT.length
        · have hl2 : (300 : Int) < (xT.length : Int) := by omega
          have HCt := Lib.hid (show cutD ⟨xk, xn, xd, xf, xT, xa, xc⟩ = ⟨xk, xn, xd, xf, xT.take 300, xa, xc⟩ from by unfold cutD; simp only; rw [if_pos hlong])
          have hl3 : (xT.take 300).length = 300 := by rw [List.length_take]; omega
          have HL3 := Lib.hid hl3
          obtain ⟨_, _, hna, hTc, _⟩ := hxi
          simp only at hna hTc
          obtain ⟨xb, rfl⟩ : ∃ xb, xa = some xb := by
            cases xa with
            | none => have := hna rfl; omega
            | some xb => exact ⟨xb, rfl⟩
          have h3' : 300 ≤ xc := by omega
          have h4' : ¬ xc < 300 := by omega
          have h5' : (300 : Int) ≤ (xc : Int) := by omega
          clear hna hl3 hlong
          have hal := balloc wr (.cells #[.int .i64 xk, .int .i64 xn, .int .i64 xd, .int .i64 xf, .slice (some xb) 300 xc] 32)
          have X0 := Whole.new wr 32 #[.int .i64 xk, .int .i64 xn, .int .i64 xd, .int .i64 xf, .slice (some xb) 300 xc]
          have own0 := own_keep own hal
          have b0 := hb.trans (hal.mono hbz)
          clear own
          go_upto_region 10 with fail
          obtain ⟨w0, hw0⟩ : ∃ w0, w0 = wr.alloc (.cells #[.int .i64 xk, .int .i64 xn, .int .i64 xd, .int .i64 xf, .slice (some xb) 300 xc] 32) := ⟨_, rfl⟩
          rw [← hw0] at hal X0 own0 b0 ⊢
          clear hw0 r0 r1 r2 r3 r4
          have hxl := X0.lt
          have y0 := X0.cell 0
          have y1 := X0.cell 1
          have y2 := X0.cell 2
          have y3 := X0.cell 3
          have y4 := X0.cell 4
          simp only [List.getElem?_toArray, List.getElem?_cons_zero, List.getElem?_cons_succ] at y0 y1 y2 y3 y4
          have b0z := b0.size
          have HO := Lib.hid (own0.alloc (.cells #[.int .i64 xk, .int .i64 xn, .int .i64 xd, .int .i64 xf, .slice (some xb) 300 xc] 32))
          have HB := Lib.hid (b0.alloc b0z (.cells #[.int .i64 xk, .int .i64 xn, .int .i64 xd, .int .i64 xf, .slice (some xb) 300 xc] 32))
          clear own0 b0 hal
          go_wp2_with (at_builtin; refine wp_app rfl _ _ 22 rfl w.heap.size 32 i0 (.agg #[.int .i64 0, .int .i64 0, .int .i64 0, .int .i64 0, .slice none 0 0]) 5 56 Try.underlying22 hi0 hz0 hz1 hz2 rfl (by decide) _ _ _ rfl HO.out _ _ _ rfl [.int .i64 xk, .int .i64 xn, .int .i64 xd, .int .i64 xf, .slice (some xb) 300 xc] _ w rfl (sl_fresh _ [.int .i64 xk, .int .i64 xn, .int .i64 xd, .int .i64 xf, .slice (some xb) 300 xc] 32) (fun h => by cases h) (de_five _ _ _ _ _ _ _) ?c1 ?c2 ?c3 HB.out ?_)
          case c1 => unfold maxLen; omega
          case c2 => omega
          case c3 => first | omega | (simp; omega)
          intro a7 c7 w7 own7 b7
          clear y0 y1 y2 y3 y4
          go_wp2_with fail
          go_roundw
          case rel => exact ⟨i + 1, a7, c7, by omega, by go_num, by go_num, by rw [htk.out, HX.out, deCells_snoc, HCt.out]; rw [HL3.out]; exact own7, b7⟩
          case measure => simp [intOf]; omega
        · have hl2 : ¬ (300 : Int) < (xT.length : Int) := by omega
          have HCt := Lib.hid (show cutD ⟨xk, xn, xd, xf, xT, xa, xc⟩ = ⟨xk, xn, xd, xf, xT, xa, xc⟩ from by unfold cutD; simp only; rw [if_neg hlong])
          clear hlong hxi
          have hal := balloc wr (.cells #[.int .i64 xk, .int .i64 xn, .int .i64 xd, .int .i64 xf, .slice xa xT.length xc] 32)
          have X0 := Whole.new wr 32 #[.int .i64 xk, .int .i64 xn, .int .i64 xd, .int .i64 xf, .slice xa xT.length xc]
          have own0 := own_keep own hal
          have b0 := hb.trans (hal.mono hbz)
          clear own
          go_upto_region 10 with fail
          obtain ⟨w0, hw0⟩ : ∃ w0, w0 = wr.alloc (.cells #[.int .i64 xk, .int .i64 xn, .int .i64 xd, .int .i64 xf, .slice xa xT.length xc] 32) := ⟨_, rfl⟩
          rw [← hw0] at hal X0 own0 b0 ⊢
          clear hw0 r0 r1 r2 r3 r4
          have hxl := X0.lt
          have y0 := X0.cell 0
          have y1 := X0.cell 1
          have y2 := X0.cell 2
          have y3 := X0.cell 3
          have y4 := X0.cell 4
          simp only [List.getElem?_toArray, List.getElem?_cons_zero, List.getElem?_cons_succ] at y0 y1 y2 y3 y4
          have b0z := b0.size
          have HO := Lib.hid (own0.alloc (.cells #[.int .i64 xk, .int .i64 xn, .int .i64 xd, .int .i64 xf, .slice xa xT.length xc] 32))
          have HB := Lib.hid (b0.alloc b0z (.cells #[.int .i64 xk, .int .i64 xn, .int .i64 xd, .int .i64 xf, .slice xa xT.length xc] 32))
          clear own0 b0 hal
          go_wp2_with (at_builtin; refine wp_app rfl _ _ 22 rfl w.heap.size 32 i0 (.agg #[.int .i64 0, .int .i64 0, .int .i64 0, .int .i64 0, .slice none 0 0]) 5 56 Try.underlying22 hi0 hz0 hz1 hz2 rfl (by decide) _ _ _ rfl HO.out _ _ _ rfl [.int .i64 xk, .int .i64 xn, .int .i64 xd, .int .i64 xf, .slice xa xT.length xc] _ w rfl (sl_fresh _ [.int .i64 xk, .int .i64 xn, .int .i64 xd, .int .i64 xf, .slice xa xT.length xc] 32) (fun h => by cases h) (de_five _ _ _ _ _ _ _) ?c1 ?c2 ?c3 HB.out ?_)
          case c1 => unfold maxLen; omega
          case c2 => omega
          case c3 => first | omega | (simp; omega)
          intro a7 c7 w7 own7 b7
          clear y0 y1 y2 y3 y4
          go_wp2_with fail
          go_roundw
          case rel => exact ⟨i + 1, a7, c7, by omega, by go_num, by go_num, by rw [htk.out, HX.out, deCells_snoc, HCt.out]; exact own7, b7⟩
          case measure => simp [intOf]; omega
      · have hlt2 : ¬ (i : Int) < (N : Int) := by omega
        have hE : V.take i = V := List.take_of_length_le (by rw [HVl.out]; omega)
        have hiE : i = (fewL l).length := by rw [HFe.out, HVl.out]; omega
        go_wp2_with fail
        go_ret
        rw [hE, ← HFe.out] at own
        exact ⟨a3, c3, by rw [← hiE]; rfl, by rw [← hiE]; exact own, hb⟩
  · have h2 : (80 : Int) < (N0 : Int) := by omega
    cases a with
    | none => exfalso; have := hc.1 rfl; omega
    | some ad =>
      have h3 : 80 ≤ c := by omega
      have h4 : ¬ c < 80 := by omega
      have h5 : (80 : Int) ≤ (c : Int) := by omega
      clear hc
      go_wp2_with fail
      go_loopw [3, 4] (fun O J wr => ∃ (i : Nat) (a3 : Option Addr) (c3 : Nat), i ≤ 80 ∧ O = .slice a3 i c3 ∧ J = .int .i64 i ∧ wr.ownsRow w.heap.size 32 5 (.slice a3 i c3) i (deCells (V.take i)) ∧ Below w.heap.size w wr) (fun _ J _ => 80 - (intOf J).toNat)
      case atStart => exact ⟨0, none, 0, by omega, rfl, rfl, World.ownsRow_nil _ _ _ _, Below.refl _ _⟩
      case round =>
        obtain ⟨i, a3, c3, hiN, rfl, rfl, own, hb⟩ := hrel
        have hbz := hb.size
        by_cases hlt : i < 80
        · have hlt2 : (i : Int) < (80 : Int) := by omega
          have hi0' : 0 ≤ (i : Int) := by omega
          have hil : i < U.length := by rw [HUl.out]; exact hlt
          have hwi : IntKind.i64.wrap ((i : Int) + 1) = ((i + 1 : Nat) : Int) := by rw [IntWalk.i64_in _ (by omega)]; omega
          obtain ⟨b2, o2, hae, hb2, hct⟩ := (hUs.below hb (Nat.le_refl _)).de (by omega)
          first | subst hae | (injection hae with hae; subst hae)
          obtain ⟨r0, r1, r2, r3, r4⟩ := hct i hil
          have hb2z : b2 < wr.heap.size := by omega
          have hxi := HUI.out _ (getD_mem U de0 i hil)
          have htk := Lib.hid (show V.take (i + 1) = V.take i ++ [cutD (U.getD i de0)] from by rw [take_get V de0 i (by rw [HVl.out]; exact hlt), HVg.out i hil])
          obtain ⟨x, hx⟩ : ∃ x, U.getD i de0 = x := ⟨_, rfl⟩
          rw [hx] at r0 r1 r2 r3 r4 hxi
          have HX := Lib.hid hx
          clear hx hct
          obtain ⟨xk, xn, xd, xf, xT, xa, xc⟩ := x
          simp only at r0 r1 r2 r3 r4 hxi
          by_cases hlong : 300 < xT.length
          · have hl2 : (300 : Int) < (xT.length : Int) := by omega
            have HCt := Lib.hid (show cutD ⟨xk, xn, xd, xf, xT, xa, xc⟩ = ⟨xk, xn, xd, xf, xT.take 300, xa, xc⟩ from by unfold cutD; simp only; rw [if_pos hlong])
            have hl3 : (xT.take 300).length = 300 := by rw [List.length_take]; omega
            have HL3 := Lib.hid hl3
            obtain ⟨_, _, hna, hTc, _⟩ := hxi
            simp only at hna hTc
            obtain ⟨xb, rfl⟩ : ∃ xb, xa = some xb := by
              cases xa with
              | none => have := hna rfl; omega
              | some xb => exact ⟨xb, rfl⟩
            have h3' : 300 ≤ xc := by omega
            have h4' : ¬ xc < 300 := by omega
            have h5' : (300 : Int) ≤ (xc : Int) := by omega
            clear hna hl3 hlong
            have hal := balloc wr (.cells #[.int .i64 xk, .int .i64 xn, .int .i64 xd, .int .i64 xf, .slice (some xb) 300 xc] 32)
            have X0 := Whole.new wr 32 #[.int .i64 xk, .int .i64 xn, .int .i64 xd, .int .i64 xf, .slice (some xb) 300 xc]
            have own0 := own_keep own hal
            have b0 := hb.trans (hal.mono hbz)
            clear own
            go_upto_region 10 with fail
            obtain ⟨w0, hw0⟩ : ∃ w0, w0 = wr.alloc (.cells #[.int .i64 xk, .int .i64 xn, .int .i64 xd, .int .i64 xf, .slice (some xb) 300 xc] 32) := ⟨_, rfl⟩
            rw [← hw0] at hal X0 own0 b0 ⊢
            clear hw0 r0 r1 r2 r3 r4
            have hxl := X0.lt
            have y0 := X0.cell 0
            have y1 := X0.cell 1
            have y2 := X0.cell 2
            have y3 := X0.cell 3
            have y4 := X0.cell 4
            simp only [List.getElem?_toArray, List.getElem?_cons_zero, List.getElem?_cons_succ] at y0 y1 y2 y3 y4
            have b0z := b0.size
            have HO := Lib.hid (own0.alloc (.cells #[.int .i64 xk, .int .i64 xn, .int .i64 xd, .int .i64 xf, .slice (some xb) 300 xc] 32))
            have HB := Lib.hid (b0.alloc b0z (.cells #[.int .i64 xk, .int .i64 xn, .int .i64 xd, .int .i64 xf, .slice (some xb) 300 xc] 32))
            clear own0 b0 hal
            go_wp2_with (at_builtin; refine wp_app rfl _ _ 22 rfl w.heap.size 32 i0 (.agg #[.int .i64 0, .int .i64 0, .int .i64 0, .int .i64 0, .slice none 0 0]) 5 56 Try.underlying22 hi0 hz0 hz1 hz2 rfl (by decide) _ _ _ rfl HO.out _ _ _ rfl [.int .i64 xk, .int .i64 xn, .int .i64 xd, .int .i64 xf, .slice (some xb) 300 xc] _ w rfl (sl_fresh _ [.int .i64 xk, .int .i64 xn, .int .i64 xd, .int .i64 xf, .slice (some xb) 300 xc] 32) (fun h => by cases h) (de_five _ _ _ _ _ _ _) ?c1 ?c2 ?c3 HB.out ?_)
            case c1 => unfold maxLen; omega
            case c2 => omega
            case c3 => first | omega | (simp; omega)
            intro a7 c7 w7 own7 b7
            clear y0 y1 y2 y3 y4
            go_wp2_with fail
            go_roundw
            case rel => exact ⟨i + 1, a7, c7, by omega, by go_num, by go_num, by rw [htk.out, HX.out, deCells_snoc, HCt.out]; rw [HL3.out]; exact own7, b7⟩
            case measure => simp [intOf]; omega
          · have hl2 : ¬ (300 : Int) < (xT.length : Int) := by omega
            have HCt := Lib.hid (show cutD ⟨xk, xn, xd, xf, xT, xa, xc⟩ = ⟨xk, xn, xd, xf, xT, xa, xc⟩ from by unfold cutD; simp only; rw [if_neg hlong])
            clear hlong hxi
            have hal := balloc wr (.cells #[.int .i64 xk, .int .i64 xn, .int .i64 xd, .int .i64 xf, .slice xa xT.length xc] 32)
            have X0 := Whole.new wr 32 #[.int .i64 xk, .int .i64 xn, .int .i64 xd, .int .i64 xf, .slice xa xT.length xc]
            have own0 := own_keep own hal
            have b0 := hb.trans (hal.mono hbz)
            clear own
            go_upto_region 10 with fail
            obtain ⟨w0, hw0⟩ : ∃ w0, w0 = wr.alloc (.cells #[.int .i64 xk, .int .i64 xn, .int .i64 xd, .int .i64 xf, .slice xa xT.length xc] 32) := ⟨_, rfl⟩
            rw [← hw0] at hal X0 own0 b0 ⊢
            clear hw0 r0 r1 r2 r3 r4
            have hxl := X0.lt
            have y0 := X0.cell 0
            have y1 := X0.cell 1
            have y2 := X0.cell 2
            have y3 := X0.cell 3
            have y4 := X0.cell 4
            simp only [List.getElem?_toArray, List.getElem?_cons_zero, List.getElem?_cons_succ] at y0 y1 y2 y3 y4
            have b0z := b0.size
            have HO := Lib.hid (own0.alloc (.cells #[.int .i64 xk, .int .i64 xn, .int .i64 xd, .int .i64 xf, .slice xa xT.length xc] 32))
            have HB := Lib.hid (b0.alloc b0z (.cells #[.int .i64 xk, .int .i64 xn, .int .i64 xd, .int .i64 xf, .slice xa xT.length xc] 32))
            clear own0 b0 hal
            go_wp2_with (at_builtin; refine wp_app rfl _ _ 22 rfl w.heap.size 32 i0 (.agg #[.int .i64 0, .int .i64 0, .int .i64 0, .int .i64 0, .slice none 0 0]) 5 56 Try.underlying22 hi0 hz0 hz1 hz2 rfl (by decide) _ _ _ rfl HO.out _ _ _ rfl [.int .i64 xk, .int .i64 xn, .int .i64 xd, .int .i64 xf, .slice xa xT.length xc] _ w rfl (sl_fresh _ [.int .i64 xk, .int .i64 xn, .int .i64 xd, .int .i64 xf, .slice xa xT.length xc] 32) (fun h => by cases h) (de_five _ _ _ _ _ _ _) ?c1 ?c2 ?c3 HB.out ?_)
            case c1 => unfold maxLen; omega
            case c2 => omega
            case c3 => first | omega | (simp; omega)
            intro a7 c7 w7 own7 b7
            clear y0 y1 y2 y3 y4
            go_wp2_with fail
            go_roundw
            case rel => exact ⟨i + 1, a7, c7, by omega, by go_num, by go_num, by rw [htk.out, HX.out, deCells_snoc, HCt.out]; exact own7, b7⟩
            case measure => simp [intOf]; omega
        · have hlt2 : ¬ (i : Int) < (80 : Int) := by omega
          have hE : V.take i = V := List.take_of_length_le (by rw [HVl.out]; omega)
          have hiE : i = (fewL l).length := by rw [HFe.out, HVl.out]; omega
          go_wp2_with fail
          go_ret
          rw [hE, ← HFe.out] at own
          exact ⟨a3, c3, by rw [← hiE]; rfl, by rw [← hiE]; exact own, hb⟩
end Go.Proofs.Ytkechaniaidieaa
