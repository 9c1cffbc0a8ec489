/- The walk of the statement VarintApart of layer 1. -/
import Derived.Test.YtmllefbejnjljaaAwake1
import Derived.IntWalk
import Derived.Deep.RegionWith
namespace Go.Proofs.Ytmllefbejnjljaa
open Go.RowKit Vm
set_option linter.unusedVariables false
set_option maxRecDepth 100000 in
set_option maxHeartbeats 2000000 in
theorem varintApart_law (a b : Int) (w : World) (ha0 : (Lit.int .i64 a).wf = true) (hb0 : (Lit.int .i64 b).wf = true) :
    Calls Try.prog 7 #[.int .i64 a, .int .i64 b] w fun e w' => e = .returned (.bool true) ∧ Below w.heap.size w w' := by
  have ha := wf_i64 ha0
  have hb := wf_i64 hb0
  clear ha0 hb0
  have hla : (str (putL a)).size ≤ 10 := by rw [str_size]; exact putL_len ha
  have hlb : (str (putL b)).size ≤ 10 := by rw [str_size]; exact putL_len hb
  have hkey : ∀ k : Nat, k = min (putL a).length (putL b).length → (str (putL a)).extract 0 k = (str (putL b)).extract 0 k → a = b := fun k hk h => by
    rw [← str_take, ← str_take] at h
    have h2 := str_inj h
    rw [str_toList, str_toList] at h2
    exact putL_take_inj k hk h2
  have ea := str_size (putL a)
  have eb := str_size (putL b)
  by_cases hab : a = b
  · subst hab
    have hq := bytes_eq ((str (putL a)).extract 0 (str (putL a)).size)
    have hn0 : (0 : Int) ≤ ((str (putL a)).size : Int) := by omega
    clear hkey ea eb
    go_enter Try.func7, Try.ntmps7
    go_wp2_with fail
    refine (put_walk _ _ ha).mono ?_
    rintro e w1 ⟨rfl, h1⟩
    go_wp2_with fail
    refine (put_walk _ _ hb).mono ?_
    rintro e w2 ⟨rfl, h2⟩
    go_wp2_with fail
    go_region_with (go_at_call 14; refine (awake1_walk _).mono ?_; rintro e w3 ⟨rfl, h3⟩)
    go_wp2_with fail
    go_ret
    exact ⟨rfl, gtrans (gtrans h1 h2) (undrew h3)⟩
  · have hab2 : (a == b) = false := beq_eq_false_iff_ne.2 hab
    rcases Nat.lt_or_ge (str (putL b)).size (str (putL a)).size with hle | hle
    · have hq : (((str (putL a)).extract 0 (str (putL b)).size).toList == ((str (putL b)).extract 0 (str (putL b)).size).toList) = false :=
        bytes_ne fun h => hab (hkey _ (by omega) h)
      have hle1 : ((str (putL b)).size : Int) < ((str (putL a)).size : Int) := by omega
      have hle2 : ¬ ((str (putL a)).size : Int) ≤ ((str (putL b)).size : Int) := by omega
      have hq2 : (((str (putL a)).extract 0 (str (putL b)).size).toList == (str (putL b)).toList) = false := by rw [ByteArray.extract_zero_size] at hq; exact hq
      have hn0 : (0 : Int) ≤ ((str (putL a)).size : Int) := by omega
      have hn1 : (0 : Int) ≤ ((str (putL b)).size : Int) := by omega
      have ht0 : (((str (putL a)).size : Int)).toNat = (str (putL a)).size := by omega
      have ht1 : (((str (putL b)).size : Int)).toNat = (str (putL b)).size := by omega
      clear hkey ea eb hab
      go_enter Try.func7, Try.ntmps7
      go_wp2_with fail
      refine (put_walk _ _ ha).mono ?_
      rintro e w1 ⟨rfl, h1⟩
      go_wp2_with fail
      refine (put_walk _ _ hb).mono ?_
      rintro e w2 ⟨rfl, h2⟩
      go_wp2_with fail
      go_region_with (go_at_call 14; refine (awake1_walk _).mono ?_; rintro e w3 ⟨rfl, h3⟩)
      go_wp2_with fail
      go_ret
      exact ⟨rfl, gtrans (gtrans h1 h2) (undrew h3)⟩
    · have hq : (((str (putL a)).extract 0 (str (putL a)).size).toList == ((str (putL b)).extract 0 (str (putL a)).size).toList) = false :=
        bytes_ne fun h => hab (hkey _ (by omega) h)
      have hq2 : ((str (putL a)).toList == ((str (putL b)).extract 0 (str (putL a)).size).toList) = false := by rw [ByteArray.extract_zero_size] at hq; exact hq
      have hle2 : ((str (putL a)).size : Int) ≤ ((str (putL b)).size : Int) := by omega
      have hn0 : (0 : Int) ≤ ((str (putL a)).size : Int) := by omega
      have hn1 : (0 : Int) ≤ ((str (putL b)).size : Int) := by omega
      have ht0 : (((str (putL a)).size : Int)).toNat = (str (putL a)).size := by omega
      have ht1 : (((str (putL b)).size : Int)).toNat = (str (putL b)).size := by omega
      clear hkey ea eb hab
      go_enter Try.func7, Try.ntmps7
      go_wp2_with fail
      refine (put_walk _ _ ha).mono ?_
      rintro e w1 ⟨rfl, h1⟩
      go_wp2_with fail
      refine (put_walk _ _ hb).mono ?_
      rintro e w2 ⟨rfl, h2⟩
      go_wp2_with fail
      go_region_with (go_at_call 14; refine (awake1_walk _).mono ?_; rintro e w3 ⟨rfl, h3⟩)
      go_wp2_with fail
      go_ret
      exact ⟨rfl, gtrans (gtrans h1 h2) (undrew h3)⟩
end Go.Proofs.Ytmllefbejnjljaa
