/- The walk of the statement MailOrder of layer 24. -/
import Derived.Test.YtkechaniaidieaaAwake24
import Derived.Test.YtkechaniaidieaaStOpen
namespace Go.Proofs.Ytkechaniaidieaa
open Go.RowKit Vm
set_option linter.unusedVariables false
set_option linter.unusedSimpArgs false

theorem mask_of (x M : Int) (h0 : 0 ≤ M) (hM : M < 9223372036854775808) : ∃ y : Int, bits .and .i64 x M = y ∧ 0 ≤ y ∧ y ≤ M := by
  refine ⟨_, rfl, ?_⟩
  have h2 : ((BitVec.ofInt 64 M).toNat : Int) = M := by
    rw [BitVec.toNat_ofInt]; omega
  have h3 : (BitVec.ofInt 64 x &&& BitVec.ofInt 64 M).toNat ≤ (BitVec.ofInt 64 M).toNat := by
    rw [BitVec.toNat_and]; exact Nat.and_le_right
  have e : bits .and .i64 x M = IntKind.i64.wrap ((BitVec.ofInt 64 x &&& BitVec.ofInt 64 M).toNat : Int) := rfl
  rw [e, IntKind.wrap_i64]
  omega
theorem sl_st_take {w : World} {B : Nat} {a : Option Addr} {T : List (List UInt8)} (h : Sl w B a (stCells T)) (M : Nat) : Sl w B a (stCells (T.take M)) := by
  have e : stCells (T.take M) = (stCells T).take M := by simp [stCells]
  rw [e]
  rcases h with h | ⟨b, o, e, hlt, hc⟩
  · exact .inl (by rw [h]; simp)
  · refine .inr ⟨b, o, e, hlt, fun j u hu => hc j u ?_⟩
    rw [List.getElem?_take] at hu
    split at hu
    · exact hu
    · cases hu
/-- Sending one text more. -/
theorem send_one {d f : Int} {T : List (List UInt8)} {k : Nat} {t : List UInt8} (hd : PlaceB d) (hf : PlaceB f) (hk : k < T.length) (hT : T.length ≤ 256) (ht : T.getD k [] = t) (hl : t.length ≤ 1000) :
    SendIs (k : Int) (sentL d f 0 (T.take k)) d f [t] 0 ((k + 1 : Nat) : Int) (sentL d f 0 (T.take (k + 1))) := by
  have h5 : (T.take k).length = k := by rw [List.length_take]; omega
  refine .inr (.inr ⟨?_, by rw [sentL_len, h5]; simp; omega, rfl, by simp, ?_⟩)
  · rintro (h | h | ⟨y, hy, h⟩)
    · exact h hd
    · exact h hf
    · rw [List.mem_singleton.1 hy] at h; omega
  · rw [take_get T [] k hk, sentL_snoc, ht, h5]
    simp [sentL]
theorem sentL_getD {d f : Int} : ∀ (T : List (List UInt8)) (s : Int) (k : Nat), k < T.length → (sentL d f s T).getD k pk0 = ⟨s + (k : Int) + 1, d, f, T.getD k []⟩ := by
  intro T
  induction T with
  | nil => intro s k h; cases h
  | cons t T ih =>
    intro s k h
    cases k with
    | zero => simp [sentL]
    | succ k =>
      simp only [sentL, List.getD_cons_succ]
      rw [ih (s + 1) k (by simpa using h)]
      rw [show s + 1 + (k : Int) + 1 = s + ((k + 1 : Nat) : Int) + 1 from by omega]
theorem take_one {d f : Int} {T : List (List UInt8)} {k : Nat} (hk : k < T.length) : TakeIs ((sentL d f 0 T).drop k) 0 ⟨(k : Int) + 1, d, f, T.getD k []⟩ 0 ((sentL d f 0 T).drop (k + 1)) := by
  refine .inr ⟨0, rfl, by rw [List.length_drop, sentL_len]; omega, ?_, rfl, ?_⟩
  · have h := sentL_getD (d := d) (f := f) T 0 k hk
    rw [Int.zero_add] at h
    rw [← h]
    simp [List.getD]
  · unfold delL
    simp
set_option maxRecDepth 100000 in
set_option maxHeartbeats 8000000 in
theorem mailOrder_law (T : List (List UInt8)) (a : Option Addr) (c : Nat) (d f : Int) (w : World) (hl : Sl w w.heap.size a (stCells T)) (hi : ∀ r ∈ T, r.length ≤ maxLen) (hc : (a = none → c = 0) ∧ T.length ≤ c ∧ c ≤ maxLen) (hd : (Lit.int .i64 d).wf = true) (hf : (Lit.int .i64 f).wf = true) :
    Calls Try.prog 5 #[.slice a T.length c, .int .i64 d, .int .i64 f] w fun e w' => e = .returned (.bool true) ∧ Below w.heap.size w w' := by
  obtain ⟨N0, hN0⟩ : ∃ N, T.length = N := ⟨_, rfl⟩
  rw [hN0] at hc ⊢
  obtain ⟨d', hd', hd0, hd7⟩ := mask_of d 7 (by omega) (by omega)
  obtain ⟨f', hf', hf0, hf7⟩ := mask_of f 7 (by omega) (by omega)
  have pd : PlaceB d' := by unfold PlaceB; omega
  have pf : PlaceB f' := by unfold PlaceB; omega
  have N1 := Lib.hid (mnew_walk w)
  have hcase : ∃ N, ((N0 ≤ 256 ∧ N = N0) ∨ (256 < N0 ∧ N = 256)) := by
    by_cases h : N0 ≤ 256
    · exact ⟨N0, .inl ⟨h, rfl⟩⟩
    · exact ⟨256, .inr ⟨by omega, rfl⟩⟩
  obtain ⟨N, hN⟩ := hcase
  obtain ⟨U, hU⟩ : ∃ U, U = T.take N := ⟨_, rfl⟩
  have hUl : U.length = N := by rw [hU, List.length_take, hN0]; omega
  have hUs : Sl w w.heap.size a (stCells U) := by rw [hU]; exact sl_st_take hl N
  have hN256 : N ≤ 256 := by omega
  have HUl := Lib.hid hUl
  have HD := Lib.hid hd'
  have HF := Lib.hid hf'
  have main : ∀ (w1 : World) (g : Nat), g = w.heap.size → MA w1 g 0 [] none 0 → Below w.heap.size w w1 → True := fun _ _ _ _ _ => trivial
  clear main hd' hf' hU hUl hi hd hf hl
  go_enter Try.func5, Try.ntmps5
  go_wp2_with fail
  refine N1.out.mono ?_
  rintro e w1 ⟨rfl, M1, b1⟩
  have HM1 := Lib.hid M1
  have hb1z := b1.size
  obtain ⟨g, hg⟩ : ∃ g, g = w.heap.size := ⟨_, rfl⟩
  have hg1 := M1.1.lt
  clear M1 N1
  have HB1 := Lib.hid b1
  rcases hN with ⟨h1, rfl⟩ | ⟨h1, rfl⟩
  · have h2 : ¬ (256 : Int) < (N : Int) := by omega
    go_wp2_with fail
    rw [HD.out, HF.out]
    go_loopw [8, 9] (fun C J wr => ∃ (i : Nat) (a3 : Option Addr) (c3 : Nat), i ≤ N ∧ C = .int .i64 i ∧ J = .int .i64 i ∧ MA wr w.heap.size i (sentL d' f' 0 (U.take i)) a3 c3 ∧ Below w.heap.size w wr) (fun _ J _ => N - (intOf J).toNat)
    case atStart => exact ⟨0, none, 0, by omega, rfl, rfl, by simpa [sentL] using HM1.out, HB1.out⟩
    case round =>
      obtain ⟨i, a3, c3, hiN, rfl, rfl, Mr, hb⟩ := hrel
      have hbz := hb.size
      by_cases hlt : i < N
      · have hlt2 : (i : Int) < (N : Int) := by omega
        have hi0 : 0 ≤ (i : Int) := by omega
        have hil : i < U.length := by rw [HUl.out]; exact hlt
        have hwi : IntKind.i64.wrap ((i : Int) + 1) = ((i + 1 : Nat) : Int) := by rw [IntWalk.i64_in _ (by omega)]; omega
        obtain ⟨b2, o2, hae, hb2, hct⟩ := (hUs.below hb (Nat.le_refl _)).st (by omega)
        first | subst hae | (injection hae with hae; subst hae)
        have r0 := hct i hil
        have hb2z : b2 < wr.heap.size := by omega
        obtain ⟨t, ht⟩ : ∃ t, U.getD i [] = t := ⟨_, rfl⟩
        rw [ht] at r0
        have HTt := Lib.hid ht
        have hsz := str_size t
        by_cases hlong : 1000 < t.length
        · have h9 : (1000 : Int) < ((str t).size : Int) := by rw [hsz]; omega
          clear ht hct hsz hlong
          go_wp2_with fail
          refine (awake24_walk _).mono ?_
          rintro e w2 ⟨rfl, g2⟩
          go_wp2_with fail
          go_ret
          exact ⟨rfl, gtrans hb g2⟩
        · have h9 : ¬ (1000 : Int) < ((str t).size : Int) := by rw [hsz]; omega
          have hal := balloc wr (.cells #[.string (str t)] 9)
          have sT : Sl (wr.alloc (.cells #[.string (str t)] 9)) (wr.alloc (.cells #[.string (str t)] 9)).heap.size (some ⟨wr.heap.size, 0, none⟩) (stCells [t]) := sl_fresh wr [.string (str t)] 9
          have M2 := Mr.keep hal
          have hgl := Mr.1.lt
          have hrl := Mr.rowlt
          have hL : (sentL d' f' 0 (U.take i)).length ≤ 256 := by rw [sentL_len, List.length_take]; omega
          have S := Lib.hid (msend_walk i (sentL d' f' 0 (U.take i)) d' f' [t] 1 (some ⟨wr.heap.size, 0, none⟩) 1 w.heap.size a3 c3 (wr.alloc (.cells #[.string (str t)] 9)) 0 ((i + 1 : Nat) : Int) (sentL d' f' 0 (U.take (i + 1))) rfl (by omega) (by omega) hL
            (send_one pd pf hil (by rw [HUl.out]; omega) ht (by omega)) M2 sT (fun z hz => by
              injection hz with hz
              subst hz
              exact ⟨by simp only; omega, fun y hy => by have := hrl y hy; simp only; omega⟩))
          unfold MPost at S
          have b2' := hb.trans (hal.mono hbz)
          clear ht hct hsz hlong M2 sT Mr hL
          go_wp2_with fail
          refine S.out.mono ?_
          rintro e w5 ⟨rfl, a5, c5, M5, _, _, b5⟩
          have b6 := b2'.trans b5
          go_wp2_with fail
          go_roundw
          case rel => exact ⟨i + 1, a5, c5, by omega, by go_num, by go_num, M5, b6⟩
          case measure => simp [intOf]; omega
      · have hlt2 : ¬ (i : Int) < (N : Int) := by omega
        have hiE : i = N := by omega
        have hUt : U.take i = U := List.take_of_length_le (by rw [HUl.out]; omega)
        have Mr2 : MA wr w.heap.size (i : Int) ((sentL d' f' 0 U).drop 0) a3 c3 := by rw [hUt] at Mr; simpa using Mr
        have HIE := Lib.hid hiE
        obtain ⟨wo, rfl⟩ : ∃ wo : World, wo = wr := ⟨_, rfl⟩
        clear Mr hiE hUt
        go_wp2_with fail
        go_loopw [10] (fun J wr => ∃ (k : Nat) (a4 : Option Addr) (c4 : Nat), k ≤ i ∧ J = .int .i64 k ∧ MA wr w.heap.size i ((sentL d' f' 0 U).drop k) a4 c4 ∧ Below w.heap.size w wr) (fun J _ => i - (intOf J).toNat)
        case atStart => exact ⟨0, a3, c3, by omega, rfl, Mr2, hb⟩
        case round =>
          obtain ⟨k, a4, c4, hki, rfl, Mk, hbk⟩ := hrel
          have hbkz := hbk.size
          have hlen : ((sentL d' f' 0 U).drop k).length ≤ 256 := by rw [List.length_drop, sentL_len, HUl.out]; omega
          by_cases hlt3 : k < i
          · have hlt4 : (k : Int) < (i : Int) := by omega
            have hk0 : 0 ≤ (k : Int) := by omega
            have hkl : k < U.length := by rw [HUl.out]; omega
            have hkN : (k : Int) < (N : Int) := by omega
            have hwk : IntKind.i64.wrap ((k : Int) + 1) = ((k + 1 : Nat) : Int) := by rw [IntWalk.i64_in _ (by omega)]; omega
            obtain ⟨t, ht⟩ : ∃ t, U.getD k [] = t := ⟨_, rfl⟩
            have Tk := take_one (d := d') (f := f') hkl
            rw [ht] at Tk
            have K := Lib.hid (mtake_walk w.heap.size i ((sentL d' f' 0 U).drop k) a4 c4 0 wr _ 0 _ Tk hlen Mk)
            unfold TPost at K
            have HTt := Lib.hid ht
            obtain ⟨wk, rfl⟩ : ∃ wk : World, wk = wr := ⟨_, rfl⟩
            clear ht Tk Mk hlen
            go_wp2_with fail
            refine K.out.mono ?_
            rintro e w5 ⟨rfl, a5, c5, M5, _, _, b5⟩
            unfold pkV
            have b6 := hbk.trans b5
            have hax := balloc w5 (.cells #[.int .i64 ((k : Int) + 1), .int .i64 d', .int .i64 f', .string (str t)] 37)
            have X6 := Whole.new w5 37 #[.int .i64 ((k : Int) + 1), .int .i64 d', .int .i64 f', .string (str t)]
            have M6 := M5.keep hax
            have b7 := b6.trans (hax.mono b6.size)
            go_upto_region 18 with fail
            obtain ⟨w6, hw6⟩ : ∃ w6, w6 = w5.alloc (.cells #[.int .i64 ((k : Int) + 1), .int .i64 d', .int .i64 f', .string (str t)] 37) := ⟨_, rfl⟩
            rw [← hw6] at X6 M6 b7 ⊢
            clear hw6 hax b6
            obtain ⟨⟨x0, x1, x2, x3⟩, _, hxl⟩ := X6.four
            obtain ⟨b2, o2, hae, hb2, hct⟩ := (hUs.below b7 (Nat.le_refl _)).st (by omega)
            first | subst hae | (injection hae with hae; subst hae)
            have r0 := hct k hkl
            rw [HTt.out] at r0
            have hb2z : b2 < w6.heap.size := by have := b7.size; omega
            have q3 := bytes_eq (str t)
            clear hct
            go_wp2_with fail
            go_quiet (fail)
            go_wp2_with fail
            go_roundw
            case rel => exact ⟨k + 1, a5, c5, by omega, by go_num, M6.keep (below_drewN _ _ _), b7.trans (below_drewN _ _ _)⟩
            case measure => simp [intOf]; omega
          · have hlt4 : ¬ (k : Int) < (i : Int) := by omega
            have hnil : (sentL d' f' 0 U).drop k = [] := List.drop_of_length_le (by rw [sentL_len, HUl.out]; have := HIE.out; omega)
            rw [hnil] at Mk
            have K := Lib.hid (mtake_walk w.heap.size i [] a4 c4 0 wr pk0 6 [] (.inl ⟨by simp, rfl, rfl, rfl⟩) (by simp) Mk)
            unfold TPost at K
            obtain ⟨wk, rfl⟩ : ∃ wk : World, wk = wr := ⟨_, rfl⟩
            clear hnil Mk hlen
            go_wp2_with fail
            refine K.out.mono ?_
            rintro e w5 ⟨rfl, a5, c5, M5, _, _, b5⟩
            unfold pkV pk0
            have b6 := hbk.trans b5
            have hax := balloc w5 (.cells #[.int .i64 0, .int .i64 0, .int .i64 0, .string (str [])] 37)
            have M6 := M5.keep hax
            have b7 := b6.trans (hax.mono b6.size)
            have KL := Lib.hid (mlen_walk w.heap.size i [] a5 c5 _ M6)
            simp only
            go_wp2_with fail
            refine KL.out.mono ?_
            rintro e w7 ⟨rfl, b8⟩
            have b9 := gtrans b7 b8
            go_wp2_with fail
            refine (awake24_walk _).mono ?_
            rintro e w8 ⟨rfl, b10⟩
            go_wp2_with fail
            go_ret
            exact ⟨rfl, gtrans b9 b10⟩
  · have h2 : (256 : Int) < (N0 : Int) := by omega
    cases a with
    | none => exfalso; have := hc.1 rfl; omega
    | some ad =>
      have h3 : 256 ≤ c := by omega
      have h4 : ¬ c < 256 := by omega
      have h5 : (256 : Int) ≤ (c : Int) := by omega
      go_wp2_with fail
      rw [HD.out, HF.out]
      go_loopw [8, 9] (fun C J wr => ∃ (i : Nat) (a3 : Option Addr) (c3 : Nat), i ≤ 256 ∧ C = .int .i64 i ∧ J = .int .i64 i ∧ MA wr w.heap.size i (sentL d' f' 0 (U.take i)) a3 c3 ∧ Below w.heap.size w wr) (fun _ J _ => 256 - (intOf J).toNat)
      case atStart => exact ⟨0, none, 0, by omega, rfl, rfl, by simpa [sentL] using HM1.out, HB1.out⟩
      case round =>
        obtain ⟨i, a3, c3, hiN, rfl, rfl, Mr, hb⟩ := hrel
        have hbz := hb.size
        by_cases hlt : i < 256
        · have hlt2 : (i : Int) < (256 : Int) := by omega
          have hi0 : 0 ≤ (i : Int) := by omega
          have hil : i < U.length := by rw [HUl.out]; exact hlt
          have hwi : IntKind.i64.wrap ((i : Int) + 1) = ((i + 1 : Nat) : Int) := by rw [IntWalk.i64_in _ (by omega)]; omega
          obtain ⟨b2, o2, hae, hb2, hct⟩ := (hUs.below hb (Nat.le_refl _)).st (by omega)
          first | subst hae | (injection hae with hae; subst hae)
          have r0 := hct i hil
          have hb2z : b2 < wr.heap.size := by omega
          obtain ⟨t, ht⟩ : ∃ t, U.getD i [] = t := ⟨_, rfl⟩
          rw [ht] at r0
          have HTt := Lib.hid ht
          have hsz := str_size t
          by_cases hlong : 1000 < t.length
          · have h9 : (1000 : Int) < ((str t).size : Int) := by rw [hsz]; omega
            clear ht hct hsz hlong
            go_wp2_with fail
            refine (awake24_walk _).mono ?_
            rintro e w2 ⟨rfl, g2⟩
            go_wp2_with fail
            go_ret
            exact ⟨rfl, gtrans hb g2⟩
          · have h9 : ¬ (1000 : Int) < ((str t).size : Int) := by rw [hsz]; omega
            have hal := balloc wr (.cells #[.string (str t)] 9)
            have sT : Sl (wr.alloc (.cells #[.string (str t)] 9)) (wr.alloc (.cells #[.string (str t)] 9)).heap.size (some ⟨wr.heap.size, 0, none⟩) (stCells [t]) := sl_fresh wr [.string (str t)] 9
            have M2 := Mr.keep hal
            have hgl := Mr.1.lt
            have hrl := Mr.rowlt
            have hL : (sentL d' f' 0 (U.take i)).length ≤ 256 := by rw [sentL_len, List.length_take]; omega
            have S := Lib.hid (msend_walk i (sentL d' f' 0 (U.take i)) d' f' [t] 1 (some ⟨wr.heap.size, 0, none⟩) 1 w.heap.size a3 c3 (wr.alloc (.cells #[.string (str t)] 9)) 0 ((i + 1 : Nat) : Int) (sentL d' f' 0 (U.take (i + 1))) rfl (by omega) (by omega) hL
              (send_one pd pf hil (by rw [HUl.out]; omega) ht (by omega)) M2 sT (fun z hz => by
                injection hz with hz
                subst hz
                exact ⟨by simp only; omega, fun y hy => by have := hrl y hy; simp only; omega⟩))
            unfold MPost at S
            have b2' := hb.trans (hal.mono hbz)
            clear ht hct hsz hlong M2 sT Mr hL
            go_wp2_with fail
            refine S.out.mono ?_
            rintro e w5 ⟨rfl, a5, c5, M5, _, _, b5⟩
            have b6 := b2'.trans b5
            go_wp2_with fail
            go_roundw
            case rel => exact ⟨i + 1, a5, c5, by omega, by go_num, by go_num, M5, b6⟩
            case measure => simp [intOf]; omega
        · have hlt2 : ¬ (i : Int) < (256 : Int) := by omega
          have hiE : i = 256 := by omega
          have hUt : U.take i = U := List.take_of_length_le (by rw [HUl.out]; omega)
          have Mr2 : MA wr w.heap.size (i : Int) ((sentL d' f' 0 U).drop 0) a3 c3 := by rw [hUt] at Mr; simpa using Mr
          have HIE := Lib.hid hiE
          obtain ⟨wo, rfl⟩ : ∃ wo : World, wo = wr := ⟨_, rfl⟩
          clear Mr hiE hUt
          go_wp2_with fail
          go_loopw [10] (fun J wr => ∃ (k : Nat) (a4 : Option Addr) (c4 : Nat), k ≤ i ∧ J = .int .i64 k ∧ MA wr w.heap.size i ((sentL d' f' 0 U).drop k) a4 c4 ∧ Below w.heap.size w wr) (fun J _ => i - (intOf J).toNat)
          case atStart => exact ⟨0, a3, c3, by omega, rfl, Mr2, hb⟩
          case round =>
            obtain ⟨k, a4, c4, hki, rfl, Mk, hbk⟩ := hrel
            have hbkz := hbk.size
            have hlen : ((sentL d' f' 0 U).drop k).length ≤ 256 := by rw [List.length_drop, sentL_len, HUl.out]; omega
            by_cases hlt3 : k < i
            · have hlt4 : (k : Int) < (i : Int) := by omega
              have hk0 : 0 ≤ (k : Int) := by omega
              have hkl : k < U.length := by rw [HUl.out]; omega
              have hkN : (k : Int) < (256 : Int) := by omega
              have hwk : IntKind.i64.wrap ((k : Int) + 1) = ((k + 1 : Nat) : Int) := by rw [IntWalk.i64_in _ (by omega)]; omega
              obtain ⟨t, ht⟩ : ∃ t, U.getD k [] = t := ⟨_, rfl⟩
              have Tk := take_one (d := d') (f := f') hkl
              rw [ht] at Tk
              have K := Lib.hid (mtake_walk w.heap.size i ((sentL d' f' 0 U).drop k) a4 c4 0 wr _ 0 _ Tk hlen Mk)
              unfold TPost at K
              have HTt := Lib.hid ht
              obtain ⟨wk, rfl⟩ : ∃ wk : World, wk = wr := ⟨_, rfl⟩
              clear ht Tk Mk hlen
              go_wp2_with fail
              refine K.out.mono ?_
              rintro e w5 ⟨rfl, a5, c5, M5, _, _, b5⟩
              unfold pkV
              have b6 := hbk.trans b5
              have hax := balloc w5 (.cells #[.int .i64 ((k : Int) + 1), .int .i64 d', .int .i64 f', .string (str t)] 37)
              have X6 := Whole.new w5 37 #[.int .i64 ((k : Int) + 1), .int .i64 d', .int .i64 f', .string (str t)]
              have M6 := M5.keep hax
              have b7 := b6.trans (hax.mono b6.size)
              go_upto_region 18 with fail
              obtain ⟨w6, hw6⟩ : ∃ w6, w6 = w5.alloc (.cells #[.int .i64 ((k : Int) + 1), .int .i64 d', .int .i64 f', .string (str t)] 37) := ⟨_, rfl⟩
              rw [← hw6] at X6 M6 b7 ⊢
              clear hw6 hax b6
              obtain ⟨⟨x0, x1, x2, x3⟩, _, hxl⟩ := X6.four
              obtain ⟨b2, o2, hae, hb2, hct⟩ := (hUs.below b7 (Nat.le_refl _)).st (by omega)
              first | subst hae | (injection hae with hae; subst hae)
              have r0 := hct k hkl
              rw [HTt.out] at r0
              have hb2z : b2 < w6.heap.size := by have := b7.size; omega
              have q3 := bytes_eq (str t)
              clear hct
              go_wp2_with fail
              go_quiet (fail)
              go_wp2_with fail
              go_roundw
              case rel => exact ⟨k + 1, a5, c5, by omega, by go_num, M6.keep (below_drewN _ _ _), b7.trans (below_drewN _ _ _)⟩
              case measure => simp [intOf]; omega
            · have hlt4 : ¬ (k : Int) < (i : Int) := by omega
              have hnil : (sentL d' f' 0 U).drop k = [] := List.drop_of_length_le (by rw [sentL_len, HUl.out]; have := HIE.out; omega)
              rw [hnil] at Mk
              have K := Lib.hid (mtake_walk w.heap.size i [] a4 c4 0 wr pk0 6 [] (.inl ⟨by simp, rfl, rfl, rfl⟩) (by simp) Mk)
              unfold TPost at K
              obtain ⟨wk, rfl⟩ : ∃ wk : World, wk = wr := ⟨_, rfl⟩
              clear hnil Mk hlen
              go_wp2_with fail
              refine K.out.mono ?_
              rintro e w5 ⟨rfl, a5, c5, M5, _, _, b5⟩
              unfold pkV pk0
              have b6 := hbk.trans b5
              have hax := balloc w5 (.cells #[.int .i64 0, .int .i64 0, .int .i64 0, .string (str [])] 37)
              have M6 := M5.keep hax
              have b7 := b6.trans (hax.mono b6.size)
              have KL := Lib.hid (mlen_walk w.heap.size i [] a5 c5 _ M6)
              simp only
              go_wp2_with fail
              refine KL.out.mono ?_
              rintro e w7 ⟨rfl, b8⟩
              have b9 := gtrans b7 b8
              go_wp2_with fail
              refine (awake24_walk _).mono ?_
              rintro e w8 ⟨rfl, b10⟩
              go_wp2_with fail
              go_ret
              exact ⟨rfl, gtrans b9 b10⟩
end Go.Proofs.Ytkechaniaidieaa
