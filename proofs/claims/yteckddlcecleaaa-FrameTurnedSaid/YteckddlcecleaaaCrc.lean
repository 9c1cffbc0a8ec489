/- The walks of layer 2's functions over the register: Sum, the four bytes, Seal, Unseal, and their references; the chapter's examples. -/
import Derived.Test.YteckddlcecleaaaInfo
import Derived.Test.YteckddlcecleaaaMore
import Derived.Deep.RegionWith
namespace Go.Proofs.Yteckddlcecleaaa
open Go.RowKit Vm Cm
set_option linter.unusedVariables false

theorem sum_lt (l : List UInt8) : sum l < 4294967296 := more_lt 0 l

set_option maxHeartbeats 1000000 in
theorem sum_walk (s : ByteArray) (w : World) (hs : s.size ≤ maxLen) :
    Calls Try.prog 35 #[.string s] w fun e w' => e = .returned (.int .u32 (sum s.data.toList : Nat)) ∧ w = w' := by
  go_enter Try.func35, Try.ntmps35
  go_wp2_with fail
  refine (more_walk 0 s _ (by omega) hs).mono ?_
  rintro e w1 ⟨rfl, rfl⟩
  go_wp2_with fail
  go_ret
  exact ⟨rfl, rfl⟩
set_option maxHeartbeats 1000000 in
theorem ref_sum_walk (s : ByteArray) (w : World) (hs : s.size ≤ maxLen) :
    Calls Try.prog 53 #[.string s] w fun e w' => e = .returned (.int .u32 (sum s.data.toList : Nat)) ∧ w = w' := by
  go_enter Try.func53, Try.ntmps53
  go_wp2_with fail
  refine (ref_more_walk 0 s _ (by omega) hs).mono ?_
  rintro e w1 ⟨rfl, rfl⟩
  go_wp2_with fail
  go_ret
  exact ⟨rfl, rfl⟩

theorem conv_new {w : World} (T src dst e : TypeId) (C : Array Value) (l : List UInt8) (hs : Try.prog.underlying src = some (.slice e)) (he : Try.prog.underlying e = some (.int .u8)) (hd : Try.prog.underlying dst = some .string)
    (h : ∀ j (hj : j < l.length), C[j]? = some (.int .u8 (l[j].toNat : Int))) (n cap : Nat) (hn : n = l.length) :
    (convert src dst (.slice (some ⟨w.heap.size, 0, none⟩) n cap)).run Try.prog (w.alloc (.cells C T)) = .ok (.string (str l)) (w.alloc (.cells C T)) := by
  subst hn
  exact run_convert_bytes_back _ src dst e ⟨w.heap.size, 0, none⟩ cap l hs he hd fun j hj => by
    have := World.cell?_alloc_mark w C T (0, 0) j
    simp only [Addr.add]
    split
    · next e => subst e; exact this.trans (h _ hj)
    · next e => simpa using this.trans (h j hj)

set_option maxHeartbeats 1000000 in
theorem laid_walk (c : Nat) (w : World) (hc : c < 4294967296) :
    Calls Try.prog 36 #[.int .u32 (c : Int)] w fun e w' => e = .returned (.string (str (four c))) ∧ Below w.heap.size w w' := by
  have hconv := conv_new (w := w) 5 66 9 5 #[.int .u8 ((c : Int) % 256), .int .u8 ((c : Int) / 256 % 256), .int .u8 ((c : Int) / 65536 % 256), .int .u8 ((c : Int) / 16777216)] (four c)
    Try.underlying66 Try.underlying5 Try.underlying9 (by
      intro j hj
      rw [four_length] at hj
      rcases j with _ | _ | _ | _ | j
      · simp [four]
      · simp [four]
      · simp [four]
      · simp [four]; omega
      · omega) 4 4 rfl
  go_enter Try.func36, Try.ntmps36
  go_wp2
  go_ret
  exact ⟨rfl, (Below.refl _ _).alloc (Nat.le_refl _) _⟩


set_option maxRecDepth 100000 in
set_option maxHeartbeats 1000000 in
theorem ref_bytes_walk (c : Nat) (w : World) (hc : c < 4294967296) :
    Calls Try.prog 52 #[.int .u32 (c : Int)] w fun e w' => e = .returned (.string (str (four c))) ∧ Below w.heap.size w w' := by
  obtain ⟨i0, hi, hz0, hz1, hz2⟩ := info_parts info_u8
  go_enter Try.func52, Try.ntmps52
  go_wp2
  go_loopw [0, 3, 4] (fun u b i wr => ∃ (C : Nat) (done : List UInt8), u = .int .u32 (C : Int) ∧ C < 4294967296 ∧ done.length ≤ 4 ∧ i = .int .i64 done.length ∧ wr.ownsRow w.heap.size 5 1 b done.length (byteVals done) ∧ Below w.heap.size w wr ∧ Hid (done ++ fourN (4 - done.length) C = four c))
    (fun _ _ i _ => 4 - (intOf i).toNat)
  case atStart => exact ⟨c, [], rfl, hc, by simp, rfl, World.ownsRow_nil _ _ _ _, Below.refl _ _, (four_eq c).symm⟩
  case round =>
    obtain ⟨C, done, rfl, hC, hdl, rfl, hown, hb, HD⟩ := hrel
    by_cases hlt : done.length < 4
    · obtain ⟨x, hx⟩ : ∃ x, x = UInt8.ofNat C := ⟨_, rfl⟩
      have hxv : (x.toNat : Int) = (C : Int) % 256 := by rw [hx]; simp
      have HX := Lib.hid hx
      clear hx
      go_wp2_with (at_builtin; refine wpList_append_own _ rfl _ _ 66 rfl w.heap.size 5 i0 (.int .u8 0) 1 1 Try.underlying66 hi hz0 hz1 hz2 rfl (by decide) _ _ _ rfl (hown.alloc _) ⟨wr.heap.size, 0, none⟩ 1 1 [.int .u8 ((C : Int) % 256)] rfl rfl ?c1 ?c2 ?c3 ?c4 ?c5 ?_)
      case c1 =>
        intro j u hj
        match j, hj with
        | 0, hj => simp at hj; subst hj; simp [Addr.add]
      case c2 => intro u hu; simp at hu; subst hu; rfl
      case c3 => unfold maxLen; omega
      case c4 => omega
      case c5 => have := hb.size; simp; omega
      intro v' w1 hown' hgrow _
      have hb1 := (hb.alloc hb.size _).grown hgrow (by have := hb.size; simp; omega) (fun k hk => (hown.lt k hk).1)
      have hown1 : w1.ownsRow w.heap.size 5 1 v' (done ++ [x]).length (byteVals (done ++ [x])) := by
        have e : byteVals (done ++ [x]) = byteVals done ++ [.int .u8 ((C : Int) % 256)] := by simp [byteVals, hxv]
        rw [e]
        simpa using hown'
      clear hown' hgrow hxv hown hb
      go_wp2
      go_roundw
      case rel =>
        refine ⟨C / 256, done ++ [x], by go_num, by omega, by simpa using Nat.succ_le_of_lt hlt, by simp, hown1, hb1, ?_⟩
        show done ++ [x] ++ fourN (4 - (done ++ [x]).length) (C / 256) = four c
        rw [← HD.out, show 4 - done.length = (4 - (done ++ [x]).length) + 1 from by simp; omega, fourN, HX.out]; simp
      case measure => simp [intOf]; omega
    · have hl4 : done.length = 4 := by omega
      have he : done = four c := by
        have := HD.out
        rw [hl4] at this
        simpa [fourN] using this
      rw [he] at hown
      have hconv := conv_own 66 9 5 Try.underlying66 Try.underlying5 Try.underlying9 hown (by rw [four_length]; decide)
      have H4 := Lib.hid hl4
      clear he hl4 hown
      go_wp2
      go_ret
      exact ⟨rfl, hb⟩

set_option maxHeartbeats 1000000 in
theorem seal_walk (s : ByteArray) (w : World) (hs : s.size ≤ 140737488355328) :
    Calls Try.prog 14 #[.string s] w fun e w' => e = .returned (.string (s ++ str (four (sum s.data.toList)))) ∧ Below w.heap.size w w' := by
  have hm : s.size ≤ maxLen := by unfold maxLen; omega
  have h4 : (str (four (sum s.data.toList))).size = 4 := by rw [str_size, four_length]
  have h4' : (str (four (sum s.data.toList))).size ≤ 4 := by omega
  have H4 := Lib.hid h4
  clear h4
  go_enter Try.func14, Try.ntmps14
  go_wp2_with fail
  refine (sum_walk _ _ hm).mono ?_
  rintro e w1 ⟨rfl, rfl⟩
  go_wp2_with fail
  refine (laid_walk _ _ (sum_lt _)).mono ?_
  rintro e w1 ⟨rfl, h1⟩
  go_wp2_with fail
  go_ret
  exact ⟨rfl, h1⟩

set_option maxHeartbeats 1000000 in
theorem ref_seal_walk (s : ByteArray) (w : World) (hs : s.size ≤ 140737488355328) :
    Calls Try.prog 40 #[.string s] w fun e w' => e = .returned (.string (s ++ str (four (sum s.data.toList)))) ∧ Below w.heap.size w w' := by
  have hm : s.size ≤ maxLen := by unfold maxLen; omega
  have h4 : (str (four (sum s.data.toList))).size = 4 := by rw [str_size, four_length]
  have h4' : (str (four (sum s.data.toList))).size ≤ 4 := by omega
  have H4 := Lib.hid h4
  clear h4
  go_enter Try.func40, Try.ntmps40
  go_wp2_with fail
  refine (ref_sum_walk _ _ hm).mono ?_
  rintro e w1 ⟨rfl, rfl⟩
  go_wp2_with fail
  refine (ref_bytes_walk _ _ (sum_lt _)).mono ?_
  rintro e w1 ⟨rfl, h1⟩
  go_wp2_with fail
  go_ret
  exact ⟨rfl, h1⟩

theorem sum_nine : sum [49, 50, 51, 52, 53, 54, 55, 56, 57] = 3808858755 := by decide +kernel
set_option maxHeartbeats 1000000 in
theorem awake2_walk (w : World) :
    Calls Try.prog 13 #[] w fun e w' => e = .returned (.bool true) ∧ w = w' := by
  have H0 := Lib.hid (fun w => sum_walk ⟨#[]⟩ w (by unfold maxLen; decide))
  have H1 := Lib.hid (fun w => sum_walk ⟨#[49, 50, 51, 52, 53, 54, 55, 56, 57]⟩ w (by unfold maxLen; decide))
  have hs0 : sum [] = 0 := by decide +kernel
  have hs1 := sum_nine
  go_enter Try.func13, Try.ntmps13
  go_wp2_with fail
  refine (H0.out _).mono ?_
  rintro e w1 ⟨rfl, rfl⟩
  go_wp2_with fail
  refine (H1.out _).mono ?_
  rintro e w1 ⟨rfl, rfl⟩
  go_wp2_with fail
  go_ret
  exact ⟨rfl, rfl⟩
end Go.Proofs.Yteckddlcecleaaa
