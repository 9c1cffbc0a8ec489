/- The walk of the statement TxnDecides of layer 12. -/
import Derived.Test.YtfjnmjibifefgaaTxInv
import Derived.Test.YtfjnmjibifefgaaTxIdx
import Derived.Test.YtfjnmjibifefgaaNtOpen
namespace Go.Proofs.Ytfjnmjibifefgaa
open Go.RowKit Vm
set_option linter.unusedVariables false

theorem mask12 (x : Int) : ∃ y : Int, bits .and .i64 x 4095 = y ∧ 0 ≤ y ∧ y ≤ 4095 := by
  refine ⟨_, rfl, ?_⟩
  have h2 : (BitVec.ofInt 64 (4095 : Int)).toNat = 4095 := by decide
  have h3 : (BitVec.ofInt 64 x &&& BitVec.ofInt 64 (4095 : Int)).toNat ≤ 4095 := by
    rw [BitVec.toNat_and, h2]; exact Nat.and_le_right
  have e : bits .and .i64 x 4095 = IntKind.i64.wrap ((BitVec.ofInt 64 x &&& BitVec.ofInt 64 (4095 : Int)).toNat : Int) := rfl
  rw [e, IntKind.wrap_i64]
  omega
theorem decides_math {R : List Tr} {pid E : Int} {X : Tr} (hI : InvT 100 R) (hX : RowIs R pid X E) (hs : X.s = 3 ∨ X.s = 4) :
    (1 ≤ pid ∧ pid ≤ 8) ∧ (1 ≤ X.e ∧ X.e ≤ 100) ∧ (∀ k m, MayN k pid m → k < 5 → FdIs R k pid m [] 9) ∧ FdIs R 5 pid 0 (putR trKey R ⟨pid, X.e + 1, 1, 0, X.s⟩) 0 ∧ RowIs (putR trKey R ⟨pid, X.e + 1, 1, 0, X.s⟩) pid ⟨pid, X.e + 1, 1, 0, X.s⟩ 0 := by
  have hR := invT_right hI (by omega)
  rcases hX with ⟨hg, _⟩ | ⟨_, rfl, _⟩
  · obtain ⟨hm, hk⟩ := getR_some trKey hg
    have hi := hI.2 X hm
    have hp : X.p = pid := hk
    refine ⟨by omega, by omega, fun k m hM h5 => .inr (.inr ⟨⟨hM, hR⟩, X, hg, .inl ⟨?_, rfl, rfl⟩⟩), .inr (.inr ⟨⟨⟨by omega, by omega, .inl ⟨by omega, rfl⟩⟩, hR⟩, X, hg, .inr ⟨⟨pid, X.e + 1, 1, 0, X.s⟩, ?_, .inr ⟨by simp only; omega, rfl, rfl⟩⟩⟩), .inl ⟨?_, rfl⟩⟩
    · have := hM.1
      unfold turnT
      repeat' split
      all_goals first | rfl | (exfalso; omega)
    · unfold turnT
      rw [hp]
      simp [hs]
    · rw [getR_put trKey R _ pid hI.1, if_pos (show trKey ⟨pid, X.e + 1, 1, 0, X.s⟩ = pid from rfl)]
  · simp [tr0] at hs

set_option maxRecDepth 100000 in
set_option maxHeartbeats 8000000 in
theorem txnDecides_law (l : List Nt) (a : Option Addr) (c : Nat) (pid parts : Int) (w : World) (hl1 : Sl w w.heap.size a (ntCells l)) (hi1 : ∀ r ∈ l, NtI r) (hc1 : (a = none → c = 0) ∧ l.length ≤ c ∧ c ≤ maxLen) (hpw : (Lit.int .i64 pid).wf = true) (hqw : (Lit.int .i64 parts).wf = true) :
    Calls Try.prog 11 #[.slice a l.length c, .int .i64 pid, .int .i64 parts] w fun e w' => e = .returned (.bool true) ∧ Below w.heap.size w w' := by
  have HW := Lib.hid (behind_walk l l.length a c w.heap.size w rfl hl1 (Nat.le_refl _))
  unfold RwPost at HW
  have HI := Lib.hid (behF_inv l)
  have hRl := behF_len (l.take 100)
  generalize behF (l.take 100) = R at *
  clear hi1 hc1 hl1 hpw hqw
  obtain ⟨X, E, hX⟩ := rowIs_ex R pid
  have HX := Lib.hid hX
  go_enter Try.func11, Try.ntmps11
  go_wp2_with fail
  refine HW.out.mono ?_
  rintro e w1 ⟨a1, c1, rfl, s1, g1, _, _⟩
  have H1 := Lib.hid (trow_walk R R.length a1 c1 w1.heap.size pid w1 X E rfl (by omega) hX s1 (Nat.le_refl _))
  have H2 := Lib.hid (fun w6 h6 => rrow_walk R R.length a1 c1 w6.heap.size pid w6 X E rfl (by omega) hX h6 (Nat.le_refl _))
  unfold RrPost at H1 H2
  have HM := Lib.hid (fun hs => decides_math HI.out hX hs)
  clear hX HW
  obtain ⟨Xp, Xe, Xs, Xm, Xl⟩ := X
  simp only at H1 H2 HM
  go_wp2_with fail
  refine H1.out.mono ?_
  rintro e w2 ⟨rfl, g2⟩
  have hal2 := balloc w2 (.cells #[.int .i64 Xp, .int .i64 Xe, .int .i64 Xs, .int .i64 Xm, .int .i64 Xl] 52)
  have hWh2 := Whole.new w2 52 #[.int .i64 Xp, .int .i64 Xe, .int .i64 Xs, .int .i64 Xm, .int .i64 Xl]
  have b2 := gtrans g2 hal2
  have s2 := Lib.hid ((s1.below b2 (Nat.le_refl _)).grow b2.size)
  have hz2 : w2.heap.size < (w2.alloc (.cells #[.int .i64 Xp, .int .i64 Xe, .int .i64 Xs, .int .i64 Xm, .int .i64 Xl] 52)).heap.size := by simp
  go_wp2_with fail
  refine (H2.out _ s2.out).mono ?_
  rintro e w3 ⟨rfl, g3⟩
  have b3 := gtrans b2 g3
  have hWh3 := hWh2.keep g3
  have hz3 : w2.heap.size < w3.heap.size := Nat.lt_of_lt_of_le hz2 g3.size
  have hz13 : w1.heap.size ≤ w3.heap.size := b3.size
  have hWh4 := hWh3.keep (balloc w3 (.cells #[.int .i64 Xp, .int .i64 Xe, .int .i64 Xs, .int .i64 Xm, .int .i64 Xl] 52))
  have e0 := hWh4.cell 0
  have e1 := hWh4.cell 1
  have e2 := hWh4.cell 2
  have e3 := hWh4.cell 3
  have e4 := hWh4.cell 4
  simp only [List.getElem?_toArray, List.getElem?_cons_zero, List.getElem?_cons_succ] at e0 e1 e2 e3 e4
  have b4 := Lib.hid (gtrans b3 (balloc w3 (.cells #[.int .i64 Xp, .int .i64 Xe, .int .i64 Xs, .int .i64 Xm, .int .i64 Xl] 52)))
  have g04 := Lib.hid (gtrans g1 b4.out)
  have hz4 : w2.heap.size < (w3.alloc (.cells #[.int .i64 Xp, .int .i64 Xe, .int .i64 Xs, .int .i64 Xm, .int .i64 Xl] 52)).heap.size := by simp; omega
  clear b2 b3 hal2 g2 g3 s2
  by_cases hs : Xs = 3 ∨ Xs = 4
  · obtain ⟨hp, hxe, hF, hF5, hR5⟩ := HM.out hs
    have HF := Lib.hid hF
    have HF5 := Lib.hid hF5
    have HR5 := Lib.hid hR5
    clear hF hF5 hR5 HM
    have hw4 : ∃ w4 : World, w4 = w3.alloc (.cells #[.int .i64 Xp, .int .i64 Xe, .int .i64 Xs, .int .i64 Xm, .int .i64 Xl] 52) := ⟨_, rfl⟩
    have hsb : ((Xs != 3) = false ∧ (Xs != 4) = true) ∨ ((Xs != 3) = true ∧ (Xs != 4) = false) := by simp; omega
    clear hs
    rcases hsb with ⟨hs3, hs4⟩ | ⟨hs3, hs4⟩
    all_goals
      go_wp2_with fail
      obtain ⟨w4, hw4⟩ := hw4
      rw [← hw4] at b4 g04 hz4 hWh4 e0 e1 e2 e3 e4 ⊢
      go_loopw [12] (fun I wz => ∃ (q : Nat), 1 ≤ q ∧ q ≤ 5 ∧ I = .int .i64 q ∧ Below w4.heap.size w4 wz) (fun I _ => 5 - (intOf I).toNat)
      case atStart => exact ⟨1, by omega, by omega, rfl, Below.refl _ _⟩
      case round =>
        obtain ⟨q, hq1, hq5, rfl, hbz⟩ := hrel
        obtain ⟨wp, rfl⟩ : ∃ wp : World, wp = wr := ⟨_, rfl⟩
        have HT := Lib.hid (fun (w6 : World) (k m : Int) (hM : MayN k pid m) (h5 : k < 5) (h6 : Sl w6 w6.heap.size a1 (trCells R)) => tfold_walk R R.length a1 c1 w6.heap.size k pid m w6 [] 9 rfl (by unfold maxLen; omega) (HF.out k m hM h5) h6 (Nat.le_refl _))
        unfold FdPost at HT
        have bz := b4.out.trans (hbz.mono b4.out.size)
        have bzz := bz.size
        by_cases hlt : q < 5
        · have hal := balloc wp (.cells #[.int .i64 q, .int .i64 pid, .int .i64 0] 50)
          have hzz : (wp.alloc (.cells #[.int .i64 q, .int .i64 pid, .int .i64 0] 50)).heap.size = wp.heap.size + 1 := by simp
          by_cases hq2 : q = 2
          · subst hq2
            obtain ⟨y, hy, hy0, hy1⟩ := mask12 parts
            have hwy : IntKind.i64.wrap (1 + y) = 1 + y := IntWalk.i64_in _ (by omega)
            have hal2 := balloc wp (.cells #[.int .i64 2, .int .i64 pid, .int .i64 (1 + y)] 50)
            have bz2 := bz.trans (hal2.mono bzz)
            have s5 := Lib.hid ((s1.below bz2 (Nat.le_refl _)).grow bz2.size)
            have HT2 := Lib.hid (HT.out _ 2 (1 + y) ⟨by omega, by omega, .inr ⟨rfl, by omega, by omega⟩⟩ (by omega) s5.out)
            have hz5 := hal2.size
            clear HT hq1 hq5
            go_wp2_with fail
            refine HT2.out.mono ?_
            rintro e w6 ⟨a6, c6, rfl, s6, g6, _, _⟩
            have b6 := Lib.hid (hbz.trans ((gtrans hal2 g6).mono hbz.size))
            clear s5 s6 hal hal2 bz bz2
            go_wp2_with fail
            go_roundw
            case rel => exact ⟨3, by omega, by omega, by go_num, b6.out⟩
            case measure => simp [intOf]
          · have bq2 : ((q : Int) == 2) = false := by simp; omega
            have bz2 := bz.trans (hal.mono bzz)
            have s5 := Lib.hid ((s1.below bz2 (Nat.le_refl _)).grow bz2.size)
            have HT2 := Lib.hid (HT.out _ q 0 ⟨by omega, by omega, .inl ⟨by omega, rfl⟩⟩ (by omega) s5.out)
            have hz5 := hal.size
            clear HT
            go_wp2_with fail
            refine HT2.out.mono ?_
            rintro e w6 ⟨a6, c6, rfl, s6, g6, _, _⟩
            have b6 := Lib.hid (hbz.trans ((gtrans hal g6).mono hbz.size))
            clear s5 s6 hal bz bz2
            go_wp2_with fail
            go_roundw
            case rel => exact ⟨q + 1, by omega, by omega, by go_num, b6.out⟩
            case measure => simp [intOf]; omega
        · have sz := Lib.hid ((s1.below bz (Nat.le_refl _)).grow bzz)
          have HT2 := Lib.hid (tfold_walk R R.length a1 c1 wp.heap.size 5 pid 0 wp _ 0 rfl (by unfold maxLen; omega) HF5.out sz.out (Nat.le_refl _))
          unfold FdPost at HT2
          have hDl := fdIs_len HF5.out
          generalize hD : putR trKey R _ = D at *
          have HR := Lib.hid (fun (w6 : World) a6 c6 (h6 : Sl w6 w6.heap.size a6 (trCells D)) => trow_walk D D.length a6 c6 w6.heap.size pid w6 _ 0 rfl (by omega) HR5.out h6 (Nat.le_refl _))
          unfold RrPost at HR
          simp only at HR
          have hWz := hWh4.keep hbz
          clear HT hD HF5 HR5
          go_wp2_with fail
          refine HT2.out.mono ?_
          rintro e w6 ⟨a6, c6, rfl, s6, g6, _, _⟩
          have hW6 := hWz.keep g6
          go_wp2_with fail
          refine (HR.out _ _ _ s6).mono ?_
          rintro e w7 ⟨rfl, g7⟩
          have hW7 := (hW6.keep g7).keep (balloc w7 (.cells #[.int .i64 pid, .int .i64 (Xe + 1), .int .i64 1, .int .i64 0, .int .i64 Xs] 52))
          have e0 := hW7.cell 0
          have e1 := hW7.cell 1
          have e2 := hW7.cell 2
          have e3 := hW7.cell 3
          have e4 := hW7.cell 4
          simp only [List.getElem?_toArray, List.getElem?_cons_zero, List.getElem?_cons_succ] at e0 e1 e2 e3 e4
          have b8 := Lib.hid (g04.out.trans ((hbz.trans ((gtrans (gtrans g6 g7) (balloc w7 (.cells #[.int .i64 pid, .int .i64 (Xe + 1), .int .i64 1, .int .i64 0, .int .i64 Xs] 52))).mono hbz.size)).mono g04.out.size))
          have hwe : IntKind.i64.wrap (Xe + 1) = Xe + 1 := IntWalk.i64_in _ (by omega)
          have hz7 : w2.heap.size < w7.heap.size := by have := g7.size; have := g6.size; have := hbz.size; omega
          clear hWz hW6 hW7
          go_wp2_with fail
          refine (awake12_walk _).mono ?_
          rintro e w8 ⟨rfl, g8⟩
          go_wp2_with fail
          go_ret
          exact ⟨rfl, gtrans b8.out g8⟩
  · have hs3 : (Xs != 3) = true := by simp; omega
    have hs4 : (Xs != 4) = true := by simp; omega
    clear HM
    go_wp2_with fail
    refine (awake12_walk _).mono ?_
    rintro e w6 ⟨rfl, g6⟩
    go_wp2_with fail
    go_ret
    exact ⟨rfl, gtrans g04.out g6⟩
end Go.Proofs.Ytfjnmjibifefgaa
