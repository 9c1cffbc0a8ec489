/- The walk of headgatelaw30.HeavyPlays. -/
import Derived.Test.YthghnpopcnnidaaHrPos
import Derived.Test.YthghnpopcnnidaaHrNone
import Derived.Test.YthghnpopcnnidaaHrLow
import Derived.Test.YthghnpopcnnidaaHrRoom
namespace Go.Proofs.Ythghnpopcnnidaa
open Go.RowKit Vm
set_option linter.unusedVariables false
set_option linter.unusedSimpArgs false

set_option maxRecDepth 100000 in
set_option maxHeartbeats 4000000 in
theorem plays_bad (m key n : Int) (a : Option Addr) (len cap : Nat) (w : World) (h : ¬ (1 ≤ m ∧ m ≤ 64)) (hl63 : (len : Int) ≤ 9223372036854775807) (hlc : len ≤ cap) :
    Calls Try.prog 3 #[.int .i64 m, .slice a len cap, .int .i64 key, .int .i64 n] w fun e w' => e = .returned (.bool true) ∧ Below w.heap.size w w' := by
  have KSo := Lib.hid (some30_walk a len cap w hl63 hlc)
  have K7 := Lib.hid (fun w => awake30_walk w)
  have KN := Lib.hid (newH_bad m w h)
  have KR := Lib.hid (fun w => rnew_bad m w h)
  clear h hl63 hlc
  go_enter Try.func3, Try.ntmps3
  go_wp2_with fail
  refine KSo.out.mono ?_
  rintro e w' ⟨rfl, hww⟩
  subst hww
  clear KSo
  go_wp2_with fail
  refine KN.out.mono ?_
  rintro e w0 ⟨rfl, hw⟩
  subst hw
  clear KN
  go_wp2_with fail
  refine (KR.out _).mono ?_
  rintro e w1 ⟨rfl, b1⟩
  have b2 := gtrans b1 (balloc w1 (.cells #[.int .i64 0, .int .i64 0, .slice none 0 0] 30))
  clear KR
  go_upto_region 4 with fail
  obtain ⟨w2, hw2⟩ : ∃ w2, w2 = w1.alloc (.cells #[.int .i64 0, .int .i64 0, .slice none 0 0] 30) := ⟨_, rfl⟩
  rw [← hw2] at b2 ⊢
  clear hw2 b1
  go_wp2_with fail
  refine (K7.out _).mono ?_
  rintro e w12 ⟨rfl, h12⟩
  have hfin := gtrans b2 h12
  go_wp2_with fail
  go_ret
  exact ⟨rfl, hfin⟩
theorem heavyPlays_law (most : Int) (a : Option Addr) (len cap : Nat) (zs : List Int) (key n : Int) (w : World) (hmo : (Lit.int .i64 most).wf = true) (hr : IsRow .i64 w a len cap zs) (hcap : cap * 8 ≤ 140737488351232) (hk : (Lit.int .i64 key).wf = true) (hn : (Lit.int .i64 n).wf = true) :
    Calls Try.prog 3 #[.int .i64 most, .slice a len cap, .int .i64 key, .int .i64 n] w fun e w' => e = .returned (.bool true) ∧ Below w.heap.size w w' := by
  obtain ⟨xs, hxl, hsx, hbx, hl63, hlc⟩ := row400 hr
  have hn2 : n ≤ 9223372036854775807 := (wf_i64 hn).2
  by_cases hm : 1 ≤ most ∧ most ≤ 64
  · obtain ⟨m, rfl⟩ : ∃ m : Nat, most = (m : Int) := ⟨most.toNat, by omega⟩
    by_cases h0 : len = 0
    · subst h0
      cases a with
      | none =>
        obtain rfl : cap = 0 := by
          rcases hr with ⟨_, _, h, _⟩ | ⟨x, h, _⟩
          · exact h
          · cases h
        exact plays_none m key n w (by omega) (by omega) hn2
      | some x =>
        by_cases hc : cap = 0
        · subst hc; exact plays_low m key n x w (by omega) (by omega) hn2
        · exact plays_room m key n x cap w (by omega) (by omega) hn2 hc (by omega)
    · rcases hsx with h | ⟨b, off, rfl, hlt, hc⟩
      · have := congrArg List.length h
        rw [i64t_len, List.length_nil] at this
        omega
      · exact plays_pos m key n b off len cap (min len 400) (min len 400 / 2) xs w (by omega) (by omega) hn2 (by omega) (by omega) hl63 hlc rfl rfl hxl (.inr ⟨b, off, rfl, hlt, hc⟩) hlt
  · exact plays_bad most key n a len cap w hm hl63 hlc
end Go.Proofs.Ythghnpopcnnidaa
