/- The walk of the statement CrcFour of layer 2. -/
import Derived.Test.YtiolpagilaabkaaUnseal
import Derived.Test.YtiolpagilaabkaaRefUnseal
namespace Go.Proofs.Ytiolpagilaabkaa
open Go.RowKit Vm Cm
set_option linter.unusedVariables false
set_option maxRecDepth 100000 in
set_option maxHeartbeats 4000000 in
theorem crcFour_law (s : ByteArray) (a b : Int) (w : World) (hs : s.size ≤ 140737488351232) (ha0 : (Lit.int .u32 a).wf = true) (hb0 : (Lit.int .u32 b).wf = true) :
    Calls Try.prog 8 #[.string s, .int .u32 a, .int .u32 b] w fun e w' => e = .returned (.bool true) ∧ Below w.heap.size w w' := by
  have ha : 0 ≤ a ∧ a < 4294967296 := by
    simp [Lit.wf, IntKind.min, IntKind.max, IntKind.signed, IntKind.bits] at ha0
    omega
  have hb : 0 ≤ b ∧ b < 4294967296 := by
    simp [Lit.wf, IntKind.min, IntKind.max, IntKind.signed, IntKind.bits] at hb0
    omega
  obtain ⟨m, rfl⟩ : ∃ n : Nat, a = n := ⟨a.toNat, by omega⟩
  obtain ⟨n, rfl⟩ : ∃ n : Nat, b = n := ⟨b.toNat, by omega⟩
  have hm4 : m < 4294967296 := by omega
  have hn4 : n < 4294967296 := by omega
  clear ha0 hb0 ha hb
  by_cases h1 : 100000 < s.size
  · have h1' : (100000 : Int) < (s.size : Int) := by omega
    go_enter Try.func8, Try.ntmps8
    go_wp2_with fail
    refine (awake2_walk _).mono ?_
    rintro e w3 ⟨rfl, rfl⟩
    go_wp2_with fail
    go_ret
    exact ⟨rfl, Below.refl _ _⟩
  · have hl : ∀ c, (s ++ str (four c)).data.toList = s.data.toList ++ four c := fun c => by
      rw [ByteArray.data_append, Array.toList_append, str_toList]
    have hz : ∀ c, (s ++ str (four c)).size ≤ maxLen := fun c => by rw [ByteArray.size_append, str_size, four_length]; unfold maxLen; omega
    have hf : ∀ c, (str (four c)).size ≤ 4 := fun c => by rw [str_size, four_length]; omega
    have hfm := hf m
    have hfn := hf n
    have hkey : ((sum (s ++ str (four m)).data.toList : Nat) : Int) = ((sum (s ++ str (four n)).data.toList : Nat) : Int) ↔ (m : Int) = (n : Int) := by
      rw [hl, hl]
      constructor
      · intro h
        have := sum_four hm4 hn4 (by omega : sum (s.data.toList ++ four m) = sum (s.data.toList ++ four n))
        omega
      · intro h
        have : m = n := by omega
        rw [this]
    have hb1 : (((sum (s ++ str (four m)).data.toList : Nat) : Int) == ((sum (s ++ str (four n)).data.toList : Nat) : Int)) = ((m : Int) == (n : Int)) := by
      rw [Bool.eq_iff_iff, beq_iff_eq, beq_iff_eq]; exact hkey
    have hb2 : (((m : Int) == (n : Int)) == ((m : Int) == (n : Int))) = true := beq_self_eq_true _
    have HZ := Lib.hid hz
    clear hl hz hf hkey
    go_enter Try.func8, Try.ntmps8
    go_wp2_with fail
    refine (ref_bytes_walk _ _ hm4).mono ?_
    rintro e w1 ⟨rfl, g1⟩
    go_wp2_with fail
    refine (sum_walk _ _ (HZ.out m)).mono ?_
    rintro e w2 ⟨rfl, rfl⟩
    go_wp2_with fail
    refine (ref_bytes_walk _ _ hn4).mono ?_
    rintro e w2 ⟨rfl, g2⟩
    go_wp2_with fail
    refine (sum_walk _ _ (HZ.out n)).mono ?_
    rintro e w3 ⟨rfl, rfl⟩
    go_wp2_with fail
    go_wp2_with fail
    refine (awake2_walk _).mono ?_
    rintro e w5 ⟨rfl, rfl⟩
    go_wp2_with fail
    go_ret
    exact ⟨rfl, gtrans g1 g2⟩
end Go.Proofs.Ytiolpagilaabkaa
