/- The walk of headgateref01.Put: it returns the same bytes. -/
import Derived.Test.YtnhchmbbhkgccaaInfo
import Derived.Test.YtnhchmbbhkgccaaRows
import Derived.Test.YtnhchmbbhkgccaaKit
import Derived.WalkSpells
import Derived.WalkLawsBesides
import Derived.Lib.Hide
namespace Go.Proofs.Ytnhchmbbhkgccaa
open Go.RowKit Vm
set_option linter.unusedVariables false


set_option maxRecDepth 100000 in
set_option maxHeartbeats 1000000 in
theorem ref_put_walk (n : Int) (w : World) (hn : I64 n) :
    Calls Try.prog 26 #[.int .i64 n] w fun e w' => e = .returned (.string (str (putL n))) ∧ Below w.heap.size w w' := by
  have hz := zig_lt hn
  have hlen := putL_len hn
  unfold I64 at hn
  obtain ⟨i0, hi, hz0, hz1, hz2⟩ := info_parts info_u8
  obtain ⟨U, hU⟩ : ∃ U : Nat, U = zig n := ⟨_, rfl⟩
  have hall : enc U = putL n := by rw [hU]; rfl
  have hs : (n < 0 ∧ -(n + 1) * 2 + 1 = (U : Int)) ∨ (0 ≤ n ∧ n * 2 = (U : Int)) := by
    rw [hU]; unfold zig
    by_cases h : n < 0
    · exact .inl ⟨h, by rw [if_pos h]; omega⟩
    · exact .inr ⟨by omega, by rw [if_neg h]; omega⟩
  rw [← hU] at hz
  have HU := Lib.hid hU
  have HA := Lib.hid hall
  clear hU hall
  rcases hs with ⟨h0, hfl⟩ | ⟨h0, hfl⟩
  all_goals
    go_enter Try.func26, Try.ntmps26
    go_wp2
    go_loopw [3, 4] (fun u b wr => ∃ (V : Nat) (done : List UInt8), u = .int .u64 (V : Int) ∧ V < 18446744073709551616 ∧ wr.ownsRow w.heap.size 5 1 b done.length (byteVals done) ∧ Below w.heap.size w wr ∧ Hid (done ++ enc V = putL n))
      (fun u _ _ => (intOf u).toNat)
    case atStart => exact ⟨U, [], rfl, hz, World.ownsRow_nil _ _ _ _, Below.refl _ _, HA.out⟩
    case round =>
      obtain ⟨V, done, rfl, hV, hown, hb, HD⟩ := hrel
      have hdl : done.length ≤ 10 := by
        have := congrArg List.length HD.out
        simp at this; omega
      by_cases hlt : 127 < V
      · obtain ⟨c, hc⟩ : ∃ c, c = UInt8.ofNat (V % 128 + 128) := ⟨_, rfl⟩
        have hcv : (c.toNat : Int) = (V : Int) % 128 + 128 := by rw [hc, toNat_small (by omega)]; omega
        have HC := Lib.hid hc
        clear hc
        go_wp2_with (at_builtin; refine wpList_append_own _ rfl _ _ 32 rfl w.heap.size 5 i0 (.int .u8 0) 1 1 Try.underlying32 hi hz0 hz1 hz2 rfl (by decide) _ _ _ rfl (hown.alloc _) ⟨wr.heap.size, 0, none⟩ 1 1 [.int .u8 ((V : Int) % 128 + 128)] rfl rfl ?c1 ?c2 ?c3 ?c4 ?c5 ?_)
        case c1 =>
          intro j u hj
          match j, hj with
          | 0, hj => simp at hj; subst hj; simp [Addr.add]
        case c2 => intro u hu; simp at hu; subst hu; rfl
        case c3 => unfold maxLen; omega
        case c4 => omega
        case c5 => have := hb.size; simp; omega
        intro v' w1 hown' hgrow _
        have hb1 := (hb.alloc hb.size _).grown hgrow (by have := hb.size; simp; omega) (fun k hk => (hown.lt k hk).1)
        have hown1 : w1.ownsRow w.heap.size 5 1 v' (done ++ [c]).length (byteVals (done ++ [c])) := by
          have e : byteVals (done ++ [c]) = byteVals done ++ [.int .u8 ((V : Int) % 128 + 128)] := by simp [byteVals, hcv]
          rw [e]
          simpa using hown'
        clear hown' hgrow hcv hown hb
        go_wp2
        go_roundw
        case rel => exact ⟨V / 128, done ++ [c], by go_num, by omega, hown1, hb1, by show done ++ [c] ++ enc (V / 128) = putL n; rw [← HD.out, enc_big (u := V) (by omega), HC.out]; simp⟩
        case measure => simp [intOf]; omega
      · go_wp2_with (at_builtin; refine wpList_append_own _ rfl _ _ 32 rfl w.heap.size 5 i0 (.int .u8 0) 1 1 Try.underlying32 hi hz0 hz1 hz2 rfl (by decide) _ _ _ rfl (hown.alloc _) ⟨wr.heap.size, 0, none⟩ 1 1 [.int .u8 (V : Int)] rfl rfl ?d1 ?d2 ?d3 ?d4 ?d5 ?_)
        case d1 =>
          intro j u hj
          match j, hj with
          | 0, hj => simp at hj; subst hj; simp [Addr.add]
        case d2 => intro u hu; simp at hu; subst hu; rfl
        case d3 => unfold maxLen; omega
        case d4 => omega
        case d5 => have := hb.size; simp; omega
        intro v' w1 hown' hgrow _
        have hb1 := (hb.alloc hb.size _).grown hgrow (by have := hb.size; simp; omega) (fun k hk => (hown.lt k hk).1)
        have hown1 : w1.ownsRow w.heap.size 5 1 v' (done ++ [UInt8.ofNat V]).length (byteVals (done ++ [UInt8.ofNat V])) := by
          have e : byteVals (done ++ [UInt8.ofNat V]) = byteVals done ++ [.int .u8 (V : Int)] := by simp [byteVals]; omega
          rw [e]
          simpa using hown'
        have hconv := conv_own 32 9 5 Try.underlying32 Try.underlying5 Try.underlying9 hown1 (by simp)
        have e2 : done ++ [UInt8.ofNat V] = putL n := by rw [← HD.out, enc_small (u := V) (by omega)]
        rw [e2] at hconv
        clear hown' hgrow hown hb hown1 e2
        go_wp2
        go_ret
        exact ⟨rfl, hb1⟩
end Go.Proofs.Ytnhchmbbhkgccaa
