/- The walk of headgateref09.Range. -/
import Derived.Test.YtafibgekikjlhaaAsMem
namespace Go.Proofs.Ytafibgekikjlhaa
open Go.RowKit Vm As
set_option linter.unusedVariables false
set_option linter.unusedSimpArgs false

def lenOf (v : Value) : Nat := match v with | .slice _ n _ => n | _ => 0
set_option maxRecDepth 100000 in
theorem rrange_bad (x : Int) (a : Option Addr) (N c : Nat) (w : World) (hd : okP x = false) : Calls Try.prog 11 #[.int .i64 x, .slice a N c] w (ArgPost w) := by
  by_cases h1 : x < 1
  · have hg : decide (x < 1) = true := decide_eq_true h1
    clear hd
    go_enter Try.func11, Try.ntmps11
    go_wp2_with fail
    go_ret2
    exact ⟨rfl, Below.refl _ _⟩
  · have hg : decide (x < 1) = false := decide_eq_false h1
    have h2 : 64 < x := by unfold okP at hd; simp at hd; omega
    clear hd h1
    go_enter Try.func11, Try.ntmps11
    go_wp2_with fail
    go_ret2
    exact ⟨rfl, Below.refl _ _⟩
set_option maxRecDepth 100000 in
set_option maxHeartbeats 16000000 in
theorem rrange_walk (M : Nat) (l : List Int) (N : Nat) (a : Option Addr) (c : Nat) (w : World) (hM1 : 1 ≤ M) (hM2 : M ≤ 64) (hN : l.length = N) (hNm : N ≤ 1000) (h : Sl w w.heap.size a (i64s l)) :
    Calls Try.prog 11 #[.int .i64 (M : Int), .slice a N c] w fun e w' => ∃ m a' c', MemIs l m ∧ e = .returned (.tuple #[.slice a' M c', .int .i64 0]) ∧ w'.ownsRow w.heap.size 3 1 (.slice a' M c') M (i64s (rangeL M m)) ∧ Below w.heap.size w w' := by
  obtain ⟨i7, hi7, hz70, hz71, hz72⟩ := info_parts info_i64
  have hg1 : decide ((M : Int) < 1) = false := decide_eq_false (by omega)
  have hg2 : ¬ (64 : Int) < (M : Int) := by omega
  have KM := Lib.hid (rmembers_walk l N a c w hN hNm h)
  unfold MemPost at KM
  have HN := Lib.hid hN
  clear hN h
  go_enter Try.func11, Try.ntmps11
  go_upto_region 3 with fail
  clear hg1 hg2
  go_wp2_with fail
  refine KM.out.mono ?_
  rintro e w2 ⟨m, k, a2, c2, hm, hk, rfl, ho, hb2⟩
  have hk2 : k ≤ 1000 := by have := memIs_len hm; rw [HN.out] at this; omega
  have HMI := Lib.hid hm
  have HK := Lib.hid hk
  have HSl := Lib.hid (ownN_sl ho)
  have hw2z := hb2.size
  clear KM hm hk ho
  go_wp2_with fail
  go_loopw [7, 8] (fun T I wr => ∃ (i : Nat) (A : List Int) (n : Nat) (a3 : Option Addr) (c3 : Nat), i ≤ k ∧ I = .int .i64 i ∧ T = .slice a3 n c3 ∧ Hid (A.length = n) ∧ Hid (A = rngTo M m i) ∧ n ≤ M ∧ wr.ownsRow w2.heap.size 3 1 (.slice a3 n c3) n (i64s A) ∧ Below w2.heap.size w2 wr) (fun _ I _ => k - (intOf I).toNat)
  case atStart => exact ⟨0, [], 0, none, 0, Nat.zero_le _, rfl, rfl, Lib.hid rfl, Lib.hid rfl, Nat.zero_le _, World.ownsRow_nil _ _ _ _, Below.refl _ _⟩
  case round =>
    obtain ⟨i, A, n, a3, c3, hik, rfl, rfl, HAl, HA, hnM, own, hb⟩ := hrel
    have hbz := hb.size
    by_cases hlt : i < k
    · have hki : (i : Int) < (k : Int) := by omega
      have hi0 : 0 ≤ (i : Int) := by omega
      have hkz : ((k : Int) == 0) = false := beq_eq_false_iff_ne.2 (by omega)
      obtain ⟨b2, o2, rfl, hb2g, hc2⟩ := HSl.out.ints (by rw [HK.out]; omega)
      have hx0 := hc2 i (by rw [HK.out]; exact hlt)
      obtain ⟨x, hx⟩ : ∃ x, m.getD i 0 = x := ⟨_, rfl⟩
      rw [hx] at hx0
      have HX := Lib.hid hx
      have HX0 := Lib.hid hx0
      obtain ⟨q, hq⟩ : ∃ q, M / k = q := ⟨_, rfl⟩
      have hqM : q ≤ 64 := by have := Nat.div_le_self M k; omega
      have Hqd := Lib.hid (show wrap64 ((M : Int) / (k : Int)) = (q : Int) by
        rw [← Int.natCast_ediv, hq, IntWalk.wrap64_in _ (by omega)])
      have HQ := Lib.hid hq
      have HO := Lib.hid own
      clear hc2 hx hx0 own hq
      by_cases hsm : i < M % k
      · have hsi : (i : Int) < (M : Int) % (k : Int) := by rw [← Int.natCast_emod]; omega
        obtain ⟨sh, hsh⟩ : ∃ sh, q + 1 = sh := ⟨_, rfl⟩
        have Hqs := Lib.hid (show wrap64 ((q : Int) + 1) = (sh : Int) by rw [IntWalk.wrap64_in _ (by omega)]; omega)
        have hshe : share M k i = sh := by unfold share; rw [if_pos hsm, HQ.out, hsh]
        have HA2 := Lib.hid (show A ++ List.replicate sh x = rngTo M m (i + 1) by rw [rngTo, HK.out, hshe, HX.out, ← HA.out])
        have hle : n + sh ≤ M := by
          have h1 := rngTo_le M m (i + 1) (by rw [HK.out]; omega) (by rw [HK.out]; omega)
          rw [← HA2.out, List.length_append, List.length_replicate, HAl.out] at h1; exact h1
        clear hshe hsm
        go_upto_region 11 with fail
        rw [Hqd.out, Hqs.out]
        clear hsi hkz
        go_wp2_with fail
        go_loopw [7, 10] (fun T J wz => ∃ (d : Nat) (a4 : Option Addr) (c4 : Nat), d ≤ sh ∧ J = .int .i64 d ∧ T = .slice a4 (n + d) c4 ∧ wz.ownsRow w2.heap.size 3 1 (.slice a4 (n + d) c4) (n + d) (i64s (A ++ List.replicate d x)) ∧ Below w2.heap.size w2 wz) (fun _ J _ => sh - (intOf J).toNat)
        case atStart => exact ⟨0, a3, c3, Nat.zero_le _, rfl, rfl, by simpa using HO.out, hb⟩
        case round =>
          obtain ⟨d, a4, c4, hd, rfl, rfl, ownz, hbw⟩ := hrel
          by_cases hdl : d < sh
          · have hdi : (d : Int) < (sh : Int) := by omega
            have hwz := hbw.size
            have r1 := (hbw.cell (p := ⟨b2, o2 + i, none⟩) (by show b2 < _; omega)).trans HX0.out
            have hb2w : b2 < wr.heap.size := by omega
            have Hw1 := Lib.hid (show IntKind.i64.wrap ((d : Int) + 1) = ((d + 1 : Nat) : Int) by rw [IntWalk.i64_in _ (by omega)]; omega)
            have HO1 := Lib.hid (ownz.alloc (.cells #[.int .i64 x] 3))
            have HB1 := Lib.hid (hbw.alloc hbw.size (.cells #[.int .i64 x] 3))
            have hza := (balloc wr (.cells #[.int .i64 x] 3)).size
            clear ownz
            go_wp2_with (at_builtin; refine wp_app2 rfl _ _ 22 rfl w2.heap.size 3 i7 (.int .i64 0) 1 8 Try.underlying22 hi7 hz70 hz71 hz72 rfl (by decide) _ _ _ rfl HO1.out _ _ _ rfl [.int .i64 x] _ w2 rfl (sl_fresh _ [.int .i64 x] 3) (fun h => by cases h) (i_one8 _) ?da ?db ?dc HB1.out ?_)
            case da => unfold maxLen; omega
            case db => omega
            case dc => omega
            intro a5 c5 w5 o5 b5 f5
            have HO5 : Hid (w5.ownsRow w2.heap.size 3 1 (.slice a5 (n + d + 1) c5) (n + d + 1) (i64s (A ++ List.replicate (d + 1) x))) := Lib.hid (by
              rw [List.replicate_succ', ← List.append_assoc, i64s_snoc]; exact o5)
            clear o5 f5 HO1 HB1 r1 hza
            have hw1 := Hw1.out
            go_wp2_with fail
            go_roundw
            case rel => exact ⟨d + 1, a5, c5, by omega, by go_num, rfl, HO5.out, b5⟩
            case measure => simp [intOf]; omega
          · obtain rfl : d = sh := by omega
            have Hw1 := Lib.hid (show IntKind.i64.wrap ((i : Int) + 1) = ((i + 1 : Nat) : Int) by rw [IntWalk.i64_in _ (by omega)]; omega)
            have HR := Lib.hid (show (A ++ List.replicate d x).length = n + d by rw [List.length_append, List.length_replicate, HAl.out])
            have hw1 := Hw1.out
            go_wp2_with fail
            go_roundw
            case rel => exact ⟨i + 1, A ++ List.replicate d x, n + d, a4, c4, by omega, by go_num, rfl, HR, HA2, by omega, ownz, hbw⟩
            case measure => simp [intOf]; omega
      · have hsi : ¬ (i : Int) < (M : Int) % (k : Int) := by rw [← Int.natCast_emod]; omega
        have hshe : share M k i = q := by unfold share; rw [if_neg hsm, HQ.out]; rfl
        have HA2 := Lib.hid (show A ++ List.replicate q x = rngTo M m (i + 1) by rw [rngTo, HK.out, hshe, HX.out, ← HA.out])
        have hle : n + q ≤ M := by
          have h1 := rngTo_le M m (i + 1) (by rw [HK.out]; omega) (by rw [HK.out]; omega)
          rw [← HA2.out, List.length_append, List.length_replicate, HAl.out] at h1; exact h1
        clear hshe hsm
        go_upto_region 11 with fail
        rw [Hqd.out]
        clear hsi hkz
        go_wp2_with fail
        go_loopw [7, 10] (fun T J wz => ∃ (d : Nat) (a4 : Option Addr) (c4 : Nat), d ≤ q ∧ J = .int .i64 d ∧ T = .slice a4 (n + d) c4 ∧ wz.ownsRow w2.heap.size 3 1 (.slice a4 (n + d) c4) (n + d) (i64s (A ++ List.replicate d x)) ∧ Below w2.heap.size w2 wz) (fun _ J _ => q - (intOf J).toNat)
        case atStart => exact ⟨0, a3, c3, Nat.zero_le _, rfl, rfl, by simpa using HO.out, hb⟩
        case round =>
          obtain ⟨d, a4, c4, hd, rfl, rfl, ownz, hbw⟩ := hrel
          by_cases hdl : d < q
          · have hdi : (d : Int) < (q : Int) := by omega
            have hwz := hbw.size
            have r1 := (hbw.cell (p := ⟨b2, o2 + i, none⟩) (by show b2 < _; omega)).trans HX0.out
            have hb2w : b2 < wr.heap.size := by omega
            have Hw1 := Lib.hid (show IntKind.i64.wrap ((d : Int) + 1) = ((d + 1 : Nat) : Int) by rw [IntWalk.i64_in _ (by omega)]; omega)
            have HO1 := Lib.hid (ownz.alloc (.cells #[.int .i64 x] 3))
            have HB1 := Lib.hid (hbw.alloc hbw.size (.cells #[.int .i64 x] 3))
            have hza := (balloc wr (.cells #[.int .i64 x] 3)).size
            clear ownz
            go_wp2_with (at_builtin; refine wp_app2 rfl _ _ 22 rfl w2.heap.size 3 i7 (.int .i64 0) 1 8 Try.underlying22 hi7 hz70 hz71 hz72 rfl (by decide) _ _ _ rfl HO1.out _ _ _ rfl [.int .i64 x] _ w2 rfl (sl_fresh _ [.int .i64 x] 3) (fun h => by cases h) (i_one8 _) ?da ?db ?dc HB1.out ?_)
            case da => unfold maxLen; omega
            case db => omega
            case dc => omega
            intro a5 c5 w5 o5 b5 f5
            have HO5 : Hid (w5.ownsRow w2.heap.size 3 1 (.slice a5 (n + d + 1) c5) (n + d + 1) (i64s (A ++ List.replicate (d + 1) x))) := Lib.hid (by
              rw [List.replicate_succ', ← List.append_assoc, i64s_snoc]; exact o5)
            clear o5 f5 HO1 HB1 r1 hza
            have hw1 := Hw1.out
            go_wp2_with fail
            go_roundw
            case rel => exact ⟨d + 1, a5, c5, by omega, by go_num, rfl, HO5.out, b5⟩
            case measure => simp [intOf]; omega
          · obtain rfl : d = q := by omega
            have Hw1 := Lib.hid (show IntKind.i64.wrap ((i : Int) + 1) = ((i + 1 : Nat) : Int) by rw [IntWalk.i64_in _ (by omega)]; omega)
            have HR := Lib.hid (show (A ++ List.replicate d x).length = n + d by rw [List.length_append, List.length_replicate, HAl.out])
            have hw1 := Hw1.out
            go_wp2_with fail
            go_roundw
            case rel => exact ⟨i + 1, A ++ List.replicate d x, n + d, a4, c4, by omega, by go_num, rfl, HR, HA2, by omega, ownz, hbw⟩
            case measure => simp [intOf]; omega
    · obtain rfl : i = k := by omega
      have e : part A M = rangeL M m := by
        unfold rangeL
        rw [HA.out]
        by_cases h0 : m = []
        · subst h0
          rw [← HK.out, if_pos rfl]; simp [rngTo, part]
        · rw [if_neg h0, ← HK.out]
          exact part_full (rngTo_all M m (List.length_pos_iff.2 h0))
      have HE := Lib.hid e
      have HO := Lib.hid own
      have hii : ¬ (i : Int) < (i : Int) := by omega
      clear e own
      go_wp2_with fail
      clear hii
      obtain ⟨wo, hwo⟩ : ∃ wo : World, wo = wr := ⟨_, rfl⟩
      rw [← hwo] at hb hbz HO ⊢
      clear hwo
      go_loopw [7] (fun T wz => ∃ (d : Nat) (a4 : Option Addr) (c4 : Nat), n ≤ d ∧ d ≤ M ∧ T = .slice a4 d c4 ∧ wz.ownsRow w2.heap.size 3 1 (.slice a4 d c4) d (i64s (A ++ List.replicate (d - n) 0)) ∧ Below w2.heap.size w2 wz) (fun T _ => M - lenOf T)
      case atStart => exact ⟨n, a3, c3, Nat.le_refl _, hnM, rfl, by simpa using HO.out, hb⟩
      case round =>
        obtain ⟨d, a4, c4, hnd, hdM, rfl, ownz, hbw⟩ := hrel
        have hwz := hbw.size
        by_cases hdl : d < M
        · have hdi : (d : Int) < (M : Int) := by omega
          have HO1 := Lib.hid (ownz.alloc (.cells #[.int .i64 0] 3))
          have HB1 := Lib.hid (hbw.alloc hbw.size (.cells #[.int .i64 0] 3))
          have hza := (balloc wr (.cells #[.int .i64 0] 3)).size
          clear ownz
          go_wp2_with (at_builtin; refine wp_app2 rfl _ _ 22 rfl w2.heap.size 3 i7 (.int .i64 0) 1 8 Try.underlying22 hi7 hz70 hz71 hz72 rfl (by decide) _ _ _ rfl HO1.out _ _ _ rfl [.int .i64 0] _ w2 rfl (sl_fresh _ [.int .i64 0] 3) (fun h => by cases h) (i_one8 _) ?da ?db ?dc HB1.out ?_)
          case da => unfold maxLen; omega
          case db => omega
          case dc => omega
          intro a5 c5 w5 o5 b5 f5
          have HO5 : Hid (w5.ownsRow w2.heap.size 3 1 (.slice a5 (d + 1) c5) (d + 1) (i64s (A ++ List.replicate (d + 1 - n) 0))) := Lib.hid (by
            rw [show d + 1 - n = (d - n) + 1 by omega, List.replicate_succ', ← List.append_assoc, i64s_snoc]; exact o5)
          clear o5 f5 HO1 HB1 hza
          go_wp2_with fail
          go_roundw
          case rel => exact ⟨d + 1, a5, c5, by omega, by omega, rfl, HO5.out, b5⟩
          case measure => simp [lenOf]; omega
        · obtain rfl : d = M := by omega
          go_wp2_with fail
          go_ret2
          refine ⟨m, a4, c4, HMI.out, rfl, ?_, hb2.trans (hbw.mono hw2z)⟩
          have e := HE.out
          unfold part at e
          rw [HAl.out] at e
          rw [← e]
          exact own_base ownz hw2z
theorem rrange_all (x : Int) (l : List Int) (N : Nat) (a : Option Addr) (c : Nat) (w : World) (hN : l.length = N) (hNm : N ≤ 1000) (h : Sl w w.heap.size a (i64s l)) :
    Calls Try.prog 11 #[.int .i64 x, .slice a N c] w (OutPost (rangeF x l) (errF x) w) := by
  by_cases hx : okP x = true
  · obtain ⟨h1, h2⟩ := okP_yes hx
    have hk := rrange_walk x.toNat l N a c w (by omega) (by omega) hN hNm h
    rw [show ((x.toNat : Nat) : Int) = x by omega] at hk
    refine hk.mono ?_
    rintro e w' ⟨m, a', c', hm, rfl, ho, hb⟩
    have e1 : rangeF x l = rangeL x.toNat m := by unfold rangeF; rw [if_pos hx, memIs_unique (memL_is l) hm]
    have e2 : (rangeF x l).length = x.toNat := by rw [e1, rangeL_len]
    refine ⟨a', c', by rw [e2]; unfold errF; rw [if_pos hx], ?_, ?_, hb⟩
    · rw [e2, e1]; exact ho
    · rw [e1]; exact ownN_sl ho
  · have hx' : okP x = false := by simpa using hx
    refine (rrange_bad x a N c w hx').mono ?_
    rintro e w' ⟨rfl, hb⟩
    have e1 : rangeF x l = [] := by unfold rangeF; rw [if_neg hx]
    refine ⟨none, 0, by rw [e1]; unfold errF; rw [if_neg hx]; rfl, ?_, ?_, hb⟩
    · rw [e1]; exact World.ownsRow_nil _ _ _ _
    · rw [e1]; exact Sl.nil _ _ _
end Go.Proofs.Ytafibgekikjlhaa
