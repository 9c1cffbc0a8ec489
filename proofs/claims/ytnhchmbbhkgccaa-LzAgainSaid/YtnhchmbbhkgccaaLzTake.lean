/- The walks of lz.takePlain and lz.takeAgain. -/
import Derived.Test.YtnhchmbbhkgccaaLzPer
import Derived.Test.YtnhchmbbhkgccaaAppStr
import Derived.Test.YtnhchmbbhkgccaaTake
import Derived.Test.YtnhchmbbhkgccaaInfo
import Derived.Deep.RegionLaw
import Derived.Deep.RegionHeld3
import Derived.Deep.AppendLies
import Derived.Deep.Cut
namespace Go.Proofs.Ytnhchmbbhkgccaa
open Go.RowKit Vm Lz
set_option linter.unusedVariables false
set_option linter.unusedSimpArgs false

def TkPost (base : Nat) (w : World) (o' rest : List UInt8) (e : Ending) (w' : World) : Prop :=
  ∃ a2 c2, e = .returned (.tuple #[.slice a2 o'.length c2, .string (str rest), .int .i64 0]) ∧ w'.ownsRow base 5 1 (.slice a2 o'.length c2) o'.length (byteVals o') ∧ Below base w w'
def TkNo (base : Nat) (w : World) (e : Ending) (w' : World) : Prop := e = .returned (.tuple #[.slice none 0 0, .string (str []), .int .i64 2]) ∧ Below base w w'
theorem extract_size (s : ByteArray) (k : Nat) (h : k ≤ s.size) : (s.extract 0 k).size = k := by
  rw [← str_take, str_size, List.length_take]
  have : s.data.toList.length = s.size := toList_length s
  omega
set_option maxRecDepth 100000 in
set_option maxHeartbeats 4000000 in
theorem tplain_ok (o : List UInt8) (a : Option Addr) (c : Nat) (s : ByteArray) (k M n base : Nat) (w : World) (hn : o.length = n) (hM : M ≤ 1048576) (hs : s.size ≤ maxLen) (hk : k ≤ s.size) (hr : n + k ≤ M)
    (hown : w.ownsRow base 5 1 (.slice a n c) n (byteVals o)) (hb : base ≤ w.heap.size) :
    Calls Try.prog 15 #[.slice a n c, .string s, .int .i64 k, .int .i64 M] w (TkPost base w (o ++ s.data.toList.take k) (s.data.toList.drop k)) := by
  obtain ⟨i0, hi, hz0, hz1, hz2⟩ := info_parts info_u8
  have hk1 : (k : Int) ≤ (s.size : Int) := by omega
  have hk0 : 0 ≤ (k : Int) := by omega
  have hk2 : (k : Int) ≤ (M : Int) - (n : Int) := by omega
  have hes := extract_size s k hk
  have hsl : s.data.toList.length = s.size := toList_length s
  have hlen : (o ++ s.data.toList.take k).length = n + k := by rw [List.length_append, List.length_take, hn]; omega
  have HL := Lib.hid hlen
  have HE := Lib.hid hes
  have HO := Lib.hid hown
  have hmx : n + k ≤ maxLen := by unfold maxLen; omega
  have hby : (n + k) * 1 ≤ 140737488355328 := by omega
  unfold maxLen at hs
  clear hlen hes hown hn hsl
  go_enter Try.func15, Try.ntmps15
  go_upto_region 3 with fail
  go_region_held3 (fun _ => True) (trivial) ((refine step_app_str (by rfl) _ _ _ _ (by rfl) base 5 i0 _ 1 Try.underlying32 Try.underlying9 hi hz0 hz1 hz2 rfl _ n _ (by rfl) HO.out (s.extract 0 k) k (by rfl) HE.out hmx hby (by simpa using hb) ?_; intro a2 c2 w1 o1 g1))
  all_goals
    go_wp2_with fail
    go_ret3
    refine ⟨a2, c2, ?_, ?_, ?_⟩
    · rw [HL.out, str_drop]; rfl
    · rw [HL.out, byteVals_append]
      rw [← str_take, str_toList] at o1
      exact o1
    · exact ((Below.refl base w).drew).grown g1 (by simpa using hb) (fun j hj => (HO.out.lt j hj).1)
set_option maxRecDepth 100000 in
set_option maxHeartbeats 4000000 in
theorem tplain_no (a : Option Addr) (c : Nat) (s : ByteArray) (k M n base : Nat) (w : World) (hM : M ≤ 1048576) (hn : n ≤ M) (hk : (k : Int) ≤ 4611686018427387904) (h : ¬ (k ≤ s.size ∧ n + k ≤ M)) :
    Calls Try.prog 15 #[.slice a n c, .string s, .int .i64 k, .int .i64 M] w (TkNo base w) := by
  by_cases h1 : k ≤ s.size
  · have h2 : (M : Int) - (n : Int) < (k : Int) := by omega
    have h3 : (k : Int) ≤ (s.size : Int) := by omega
    clear h
    go_enter Try.func15, Try.ntmps15
    go_wp2_with fail
    go_ret3
    exact ⟨rfl, Below.refl _ _⟩
  · have h3 : (s.size : Int) < (k : Int) := by omega
    clear h h1
    go_enter Try.func15, Try.ntmps15
    go_wp2_with fail
    go_ret3
    exact ⟨rfl, Below.refl _ _⟩
theorem byteVals_get (l : List UInt8) (k : Nat) (h : k < l.length) : (byteVals l)[k]? = some (.int .u8 ((l.getD k 0).toNat : Int)) := by
  unfold byteVals; simp [List.getD, h]
theorem b_one (x : UInt8) : ∀ u ∈ ([.int .u8 (x.toNat : Int)] : List Value), u.oneCell' = true := fun v hv => by simp at hv; rcases hv with rfl; rfl
set_option maxRecDepth 100000 in
set_option maxHeartbeats 8000000 in
theorem tagain_ok (o : List UInt8) (a : Option Addr) (c : Nat) (s : ByteArray) (k M n b base : Nat) (r : List UInt8) (w : World) (hn : o.length = n) (hM : M ≤ 1048576) (hs : s.size ≤ maxLen)
    (ht : takeL s.data.toList = some ((b : Int), r)) (hb1 : 1 ≤ b) (hb2 : b ≤ 4096) (hb3 : b ≤ n) (hr : n + k + 4 ≤ M)
    (hown : w.ownsRow base 5 1 (.slice a n c) n (byteVals o)) (hb : base ≤ w.heap.size) :
    Calls Try.prog 16 #[.slice a n c, .string s, .int .i64 k, .int .i64 M] w (TkPost base w (rep b (k + 4) o) r) := by
  obtain ⟨i0, hi, hz0, hz1, hz2⟩ := info_parts info_u8
  have ha := Take.a_some ht
  have hk0 : ¬ (b : Int) < 1 := by omega
  have hk1 : (b : Int) ≤ 4096 := by omega
  have hk2 : (b : Int) ≤ (n : Int) := by omega
  have hk3 : (k : Int) ≤ (M : Int) - (n : Int) - 4 := by omega
  have hk4 : ¬ n < b := by omega
  have HN := Lib.hid hn
  have HO := Lib.hid hown
  have K := Lib.hid (take_walk s w hs)
  rw [ha] at K
  clear ht ha hown hn
  go_enter Try.func16, Try.ntmps16
  go_wp2_with fail
  refine K.out.mono ?_
  rintro e w1 ⟨rfl, d1⟩
  have hb1' := d1.below w.heap.size
  have O1 := Lib.hid (own_keep HO.out hb1')
  clear K
  go_wp2_with fail
  go_loopw [0, 46] (fun O J wr => ∃ (j L : Nat) (q : List UInt8) (a : Option Addr) (c : Nat), j ≤ k + 4 ∧ J = .int .i64 j ∧ O = .slice a L c ∧ Hid (L = n + j) ∧ Hid (q = rep b j o) ∧ wr.ownsRow base 5 1 (.slice a L c) L (byteVals q) ∧ Below base w wr ∧ base ≤ wr.heap.size) (fun _ J _ => k + 4 - (intOf J).toNat)
  case atStart => exact ⟨0, n, o, a, c, by omega, rfl, rfl, Lib.hid rfl, Lib.hid rfl, O1.out, d1.below base, by have := hb1'.size; omega⟩
  case round =>
    obtain ⟨j, L, q, a, c, hj, rfl, rfl, HL, HQ, own, hbw, hbz⟩ := hrel
    have hql : q.length = L := by rw [HQ.out, rep_len, HN.out, HL.out]
    have hL : L = n + j := HL.out
    by_cases hlt : j < k + 4
    · have hj1 : (j : Int) < (k : Int) + 4 := by omega
      obtain ⟨g, rfl, hg1, hg2, _, hct⟩ := ownN_at own (by omega)
      have x0 := hct _ _ (byteVals_get q (L - b) (by omega))
      obtain ⟨x, hx⟩ : ∃ x, q.getD (L - b) 0 = x := ⟨_, rfl⟩
      rw [hx] at x0
      have HQ2 := Lib.hid (show q ++ [x] = rep b (j + 1) o by rw [rep_snoc, ← HQ.out, hql, hx])
      obtain ⟨d, hd⟩ : ∃ d, L - b = d := ⟨_, rfl⟩
      rw [hd] at x0
      have hd0 : 0 ≤ (d : Int) := by omega
      have hd1 : (d : Int) < (L : Int) := by omega
      have hwd : IntKind.i64.wrap ((L : Int) - (b : Int)) = (d : Int) := by rw [IntWalk.i64_in _ (by omega)]; omega
      have hLm : L + 1 ≤ 1048576 := by omega
      have Hwj := Lib.hid (show IntKind.i64.wrap ((j : Int) + 1) = ((j + 1 : Nat) : Int) by rw [IntWalk.i64_in _ (by omega)]; omega)
      have HO2 := Lib.hid (own.alloc (.cells #[.int .u8 (x.toNat : Int)] 5))
      have hal := balloc wr (.cells #[.int .u8 (x.toNat : Int)] 5)
      have hB2 := hbw.trans (hal.mono hbz)
      have hsz2 := hal.size
      have hbz2 : base ≤ (wr.alloc (.cells #[.int .u8 (x.toNat : Int)] 5)).heap.size := by omega
      clear hx hd hct hL hql own hal
      go_wp2_with (at_builtin; refine wp_app rfl _ _ 32 rfl base 5 i0 (.int .u8 0) 1 1 Try.underlying32 hi hz0 hz1 hz2 rfl (by decide) _ _ _ rfl HO2.out _ _ _ rfl [.int .u8 (x.toNat : Int)] _ _ rfl (sl_fresh _ [.int .u8 (x.toNat : Int)] 5) (fun h => by cases h) (b_one x) ?c1 ?c2 hbz2 (Below.refl _ _) ?_)
      case c1 => unfold maxLen; omega
      case c2 => omega
      intro a2 c2 w2 o2 b2
      have hB3 := hB2.trans b2
      have hsz3 := b2.size
      have hwj := Hwj.out
      clear hwd x0
      go_wp2_with fail
      go_roundw
      case rel => exact ⟨j + 1, L + 1, q ++ [x], a2, c2, by omega, by go_num, rfl, Lib.hid (by rw [HL.out]; omega), HQ2, by rw [byteVals_append]; exact o2, hB3, by omega⟩
      case measure => simp [intOf]; omega
    · have hj1 : ¬ (j : Int) < (k : Int) + 4 := by omega
      have hjk : j = k + 4 := by omega
      rw [hjk] at HQ
      clear hL hjk
      go_wp2_with fail
      go_ret3
      refine ⟨a, c, ?_, ?_, hbw⟩
      · rw [← HQ.out, hql]; rfl
      · rw [← HQ.out, hql]; exact own
set_option maxRecDepth 100000 in
set_option maxHeartbeats 4000000 in
theorem tagain_none (a : Option Addr) (c : Nat) (s : ByteArray) (k M n base : Nat) (w : World) (hM : M ≤ 1048576) (hs : s.size ≤ maxLen) (ht : takeL s.data.toList = none) :
    Calls Try.prog 16 #[.slice a n c, .string s, .int .i64 k, .int .i64 M] w (TkNo base w) := by
    have K := Lib.hid (take_walk s w hs)
    rw [Take.a_none ht] at K
    clear ht
    go_enter Try.func16, Try.ntmps16
    go_wp2_with fail
    refine K.out.mono ?_
    rintro e w1 ⟨rfl, d1⟩
    have hb1 := Lib.hid (d1.below base)
    clear K d1
    go_wp2_with fail
    go_ret3
    exact ⟨rfl, hb1.out⟩
set_option maxRecDepth 100000 in
set_option maxHeartbeats 4000000 in
theorem tagain_no (a : Option Addr) (c : Nat) (s : ByteArray) (k M n base : Nat) (b : Int) (r : List UInt8) (w : World) (hM : M ≤ 1048576) (hn : n ≤ M) (hk : (k : Int) ≤ 4611686018427387904) (hs : s.size ≤ maxLen)
    (ht : takeL s.data.toList = some (b, r)) (h : b < 1 ∨ 4096 < b ∨ (n : Int) < b ∨ (M : Int) - (n : Int) - 4 < (k : Int)) :
    Calls Try.prog 16 #[.slice a n c, .string s, .int .i64 k, .int .i64 M] w (TkNo base w) := by
  have K := Lib.hid (take_walk s w hs)
  rw [Take.a_some ht] at K
  clear ht
  by_cases h1 : b < 1
  · clear h
    go_enter Try.func16, Try.ntmps16
    go_wp2_with fail
    refine K.out.mono ?_
    rintro e w1 ⟨rfl, d1⟩
    have hb1 := Lib.hid (d1.below base)
    clear K d1
    go_wp2_with fail
    go_ret3
    exact ⟨rfl, hb1.out⟩
  by_cases h2 : 4096 < b
  · clear h
    go_enter Try.func16, Try.ntmps16
    go_wp2_with fail
    refine K.out.mono ?_
    rintro e w1 ⟨rfl, d1⟩
    have hb1 := Lib.hid (d1.below base)
    clear K d1
    go_wp2_with fail
    go_ret3
    exact ⟨rfl, hb1.out⟩
  by_cases h3 : (n : Int) < b
  · clear h
    go_enter Try.func16, Try.ntmps16
    go_wp2_with fail
    refine K.out.mono ?_
    rintro e w1 ⟨rfl, d1⟩
    have hb1 := Lib.hid (d1.below base)
    clear K d1
    go_wp2_with fail
    go_ret3
    exact ⟨rfl, hb1.out⟩
  · have h4 : (M : Int) - (n : Int) - 4 < (k : Int) := by omega
    clear h
    go_enter Try.func16, Try.ntmps16
    go_wp2_with fail
    refine K.out.mono ?_
    rintro e w1 ⟨rfl, d1⟩
    have hb1 := Lib.hid (d1.below base)
    clear K d1
    go_wp2_with fail
    go_ret3
    exact ⟨rfl, hb1.out⟩
end Go.Proofs.Ytnhchmbbhkgccaa
