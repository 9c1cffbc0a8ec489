/- The walk of headgateref01.All. -/
import Derived.Test.YtfjnmjibifefgaaPutAll
import Derived.Test.YtfjnmjibifefgaaRefPut
namespace Go.Proofs.Ytfjnmjibifefgaa
open Go.RowKit Vm
set_option linter.unusedVariables false

set_option maxRecDepth 100000 in
set_option maxHeartbeats 2000000 in
theorem ref_all_walk (a : Option Addr) (n c B : Nat) (xs : List Int) (w : World) (hn : n = xs.length) (hm : n ≤ 14073748835532) (ha : Sl w B a (i64s xs)) (hB : B ≤ w.heap.size) (hx : ∀ x ∈ xs, I64 x) :
    Calls Try.prog 61 #[.slice a n c] w fun e w' => e = .returned (.string (str (putN xs))) ∧ Below w.heap.size w w' := by
  have HN := Lib.hid hn
  have HX := Lib.hid hx
  clear hn hx
  go_enter Try.func61, Try.ntmps61
  go_wp2
  go_loopw [3, 4] (fun s i wr => ∃ k : Nat, k ≤ n ∧ i = .int .i64 k ∧ s = .string (str (putN (xs.take k))) ∧ Below w.heap.size w wr) (fun _ i _ => n - (intOf i).toNat)
  case atStart => exact ⟨0, by omega, rfl, rfl, Below.refl _ _⟩
  case round =>
    obtain ⟨k, hk, rfl, rfl, hb⟩ := hrel
    by_cases hlt : k < n
    · have hkx : k < xs.length := by have := HN.out; omega
      obtain ⟨b1, o1, rfl, _, h1⟩ := (ha.below hb hB).at (j := k) (by rw [i64s_length]; exact hkx)
      rw [i64s_at _ _ hkx] at h1
      have hi := HX.out xs[k] (List.getElem_mem hkx)
      have hts := Lib.hid (take_succ xs k hkx)
      have hlen := putN_len (xs.take k) (fun m hm => HX.out m (List.mem_of_mem_take hm))
      have hlk : (xs.take k).length ≤ k := List.length_take_le _ _
      have hsz : (str (putN (xs.take k))).size ≤ 140737488355320 := by rw [str_size]; omega
      generalize xs[k] = x at *
      have hpl : (str (putL x)).size ≤ 10 := by rw [str_size]; exact putL_len hi
      go_wp2_with fail
      refine (ref_put_walk _ _ hi).mono ?_
      rintro e w1 ⟨rfl, g1⟩
      have hb1 := hb.trans (g1.mono hb.size)
      clear hb h1
      go_wp2
      go_roundw
      case rel =>
        refine ⟨k + 1, by omega, by go_num, ?_, hb1⟩
        rw [hts.out, putN_snoc]
        refine congrArg Value.string ?_
        apply ByteArray.ext
        rw [ByteArray.data_append]
        simp [str]
      case measure => simp [intOf]; omega
    · have hall : xs.take k = xs := List.take_of_length_le (by have := HN.out; omega)
      have HA := Lib.hid hall
      clear hall
      go_wp2
      go_ret
      exact ⟨by rw [HA.out]; rfl, hb⟩
end Go.Proofs.Ytfjnmjibifefgaa
