/- The walks of PutAll and headgateref01.All: numbers as bytes, one behind the other. -/
import Derived.Test.YtnhchmbbhkgccaaBuilder
import Derived.Test.YtnhchmbbhkgccaaPut
import Derived.IntWalk
namespace Go.Proofs.Ytnhchmbbhkgccaa
open Go.RowKit Vm
set_option linter.unusedVariables false

theorem putN_snoc (l : List Int) (n : Int) : putN (l ++ [n]) = putN l ++ putL n := by simp [putN]
theorem putN_len (l : List Int) (h : ∀ n ∈ l, I64 n) : (putN l).length ≤ 10 * l.length := by
  induction l with
  | nil => simp [putN]
  | cons n l ih =>
    have h1 := putL_len (h n (by simp))
    have h2 := ih (fun m hm => h m (by simp [hm]))
    rw [putN_cons, List.length_append, List.length_cons]; omega
theorem take_succ (l : List Int) (k : Nat) (h : k < l.length) : l.take (k + 1) = l.take k ++ [l[k]] := List.take_succ_eq_append_getElem h

set_option maxRecDepth 100000 in
set_option maxHeartbeats 2000000 in
theorem put_all_walk (a : Option Addr) (n c B : Nat) (xs : List Int) (w : World) (hn : n = xs.length) (hm : n ≤ 14073748835532) (ha : Sl w B a (i64s xs)) (hB : B ≤ w.heap.size) (hx : ∀ x ∈ xs, I64 x) :
    Calls Try.prog 25 #[.slice a n c] w fun e w' => e = .returned (.string (str (putN xs))) ∧ Below w.heap.size w w' := by
  have HN := Lib.hid hn
  have HX := Lib.hid hx
  clear hn hx
  go_enter Try.func25, Try.ntmps25
  go_wp2
  go_loopw [8] (fun i wr => ∃ k : Nat, k ≤ n ∧ i = .int .i64 k ∧ Bd w.heap.size w.heap.size (putN (xs.take k)) wr ∧ Below w.heap.size w wr ∧ w.heap.size < wr.heap.size) (fun i _ => n - (intOf i).toNat)
  case atStart => exact ⟨0, by omega, rfl, by simpa [putN] using Bd.start w, (Below.refl _ _).alloc (Nat.le_refl _) _, by simp⟩
  case round =>
    obtain ⟨k, hk, rfl, hbd, hb, hsz⟩ := hrel
    by_cases hlt : k < n
    · have hkx : k < xs.length := by have := HN.out; omega
      obtain ⟨b1, o1, rfl, _, h1⟩ := (ha.below hb hB).at (j := k) (by rw [i64s_length]; exact hkx)
      rw [i64s_at _ _ hkx] at h1
      have hi := HX.out xs[k] (List.getElem_mem hkx)
      have hts := Lib.hid (take_succ xs k hkx)
      have hlen := putN_len (xs.take k) (fun m hm => HX.out m (List.mem_of_mem_take hm))
      have hlk : (xs.take k).length ≤ k := List.length_take_le _ _
      generalize xs[k] = x at *
      have hpl : (str (putL x)).size ≤ 10 := by rw [str_size]; exact putL_len hi
      go_wp2_with fail
      refine (put_walk _ _ hi).mono ?_
      rintro e w1 ⟨rfl, g1⟩
      have hbd1 := hbd.below g1
      have hb1 := hb.trans (g1.mono hb.size)
      have hz1 : w.heap.size < w1.heap.size := by have := g1.size; omega
      clear hbd hb h1
      go_wp2_with fail
      refine (write_walk _ _ _ _ _ hbd1 (by omega) (by omega)).mono ?_
      rintro e w2 ⟨rfl, hbd2, g2⟩
      have hb2 := hb1.trans g2
      have hz2 : w.heap.size < w2.heap.size := by have := g2.size; omega
      rw [str_toList] at hbd2
      clear hbd1 hb1
      go_wp2
      go_roundw
      case rel => exact ⟨k + 1, by omega, by go_num, by rw [hts.out, putN_snoc]; exact hbd2, hb2, hz2⟩
      case measure => simp [intOf]; omega
    · have hall : xs.take k = xs := List.take_of_length_le (by have := HN.out; omega)
      rw [hall] at hbd
      have HA := Lib.hid hall
      clear hall
      go_wp2_with fail
      refine (string_walk _ _ _ _ hbd (by omega)).mono ?_
      rintro e w1 ⟨rfl, g1⟩
      go_wp2_with fail
      go_ret
      exact ⟨rfl, hb.trans g1⟩

end Go.Proofs.Ytnhchmbbhkgccaa
