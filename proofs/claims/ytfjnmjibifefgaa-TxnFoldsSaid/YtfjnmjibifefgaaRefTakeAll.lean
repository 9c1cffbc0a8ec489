/- The walks of headgateref01.TakeAll. -/
import Derived.Test.YtfjnmjibifefgaaTakeAll
import Derived.Test.YtfjnmjibifefgaaRefTake
namespace Go.Proofs.Ytfjnmjibifefgaa
open Go.RowKit Vm
set_option linter.unusedVariables false

set_option maxRecDepth 100000 in
set_option maxHeartbeats 1000000 in
theorem ref_take_all_bad (s : ByteArray) (n : Int) (w : World) (hn : n < 0 ∨ 64 < n) :
    Calls Try.prog 63 #[.string s, .int .i64 n] w (BadPost w) := by
  rcases hn with hn | hn
  · go_enter Try.func63, Try.ntmps63
    go_wp2
    go_ret3
    exact ⟨rfl, Below.refl _ _⟩
  · have h0 : ¬ n < 0 := by omega
    go_enter Try.func63, Try.ntmps63
    go_wp2
    go_ret3
    exact ⟨rfl, Below.refl _ _⟩
set_option maxRecDepth 100000 in
set_option maxHeartbeats 2000000 in
theorem ref_take_all_good (s : ByteArray) (n : Nat) (w : World) (hs : s.size ≤ 140737488355328) (hn : n ≤ 64) :
    Calls Try.prog 63 #[.string s, .int .i64 (n : Int)] w (RowsPost w (takeN n s.data.toList)) := by
  obtain ⟨i0, hi, hz0, hz1, hz2⟩ := info_parts info_i64
  have hs0 : str [] = ⟨#[]⟩ := rfl
  go_enter Try.func63, Try.ntmps63
  go_wp2
  go_loopw [0, 7, 8] (fun t v i wr => ∃ (x : ByteArray) (done : List Int), t = .string x ∧ x.size ≤ 140737488355328 ∧ done.length ≤ n ∧ i = .int .i64 done.length ∧ wr.ownsRow w.heap.size 3 1 v done.length (i64s done) ∧ Below w.heap.size w wr ∧ Hid (Left s.data.toList n done x.data.toList)) (fun t v i _ => n - (intOf i).toNat)
  case atStart => exact ⟨s, [], rfl, hs, Nat.zero_le _, rfl, World.ownsRow_nil _ _ _ _, Below.refl _ _, Left.start _ _⟩
  case round =>
    obtain ⟨x, done, rfl, hx, hdl, rfl, hown, hb, HL⟩ := hrel
    have hxm : x.size ≤ maxLen := by unfold maxLen; omega
    by_cases hlt : done.length < n
    · rcases takeA_cases x with ha | ⟨v, r, ha, hv, he⟩
      · have h0 : takeN n s.data.toList = none := HL.out.fail hlt (by
          cases ht : takeL x.data.toList with
          | none => rfl
          | some p => unfold takeA at ha; rw [ht] at ha; simp at ha)
        have H0 := Lib.hid h0
        clear h0
        go_wp2_with fail
        refine (ref_take_walk _ _ hxm).mono ?_
        rintro e w1 ⟨rfl, h1⟩
        go_wp2_with fail
        go_ret3
        exact ⟨hb.trans (h1.mono hb.size), .inl ⟨H0.out, rfl⟩⟩
      · have hstep := HL.out.step hlt (takeL_of he hv)
        have hrs : (str r).size ≤ 140737488355328 := by
          have h2 := congrArg List.length he
          rw [List.length_append, toList_length] at h2
          rw [str_size]; omega
        have HS := Lib.hid hstep
        clear hstep he
        go_wp2_with fail
        refine (ref_take_walk _ _ hxm).mono ?_
        rintro e w1 ⟨rfl, h1⟩
        have hownA := own_keep hown h1
        have hb1 : Below w.heap.size w w1 := hb.trans (h1.mono hb.size)
        go_wp2_with (at_builtin; refine wpList_append_own _ rfl _ _ 39 rfl w.heap.size 3 i0 (.int .i64 0) 1 8 Try.underlying39 hi hz0 hz1 hz2 rfl (by decide) _ _ _ rfl (hownA.alloc _) ⟨w1.heap.size, 0, none⟩ 1 1 [.int .i64 v] rfl rfl ?c1 ?c2 ?c3 ?c4 ?c5 ?_)
        case c1 =>
          intro j u hj
          match j, hj with
          | 0, hj => simp at hj; subst hj; simp [Addr.add]
        case c2 => intro u hu; simp at hu; subst hu; rfl
        case c3 => unfold maxLen; omega
        case c4 => omega
        case c5 => have := hb1.size; simp; omega
        intro v' w2 hown' hgrow _
        have hb2 := (hb1.alloc hb1.size _).grown hgrow (by have := hb1.size; simp; omega) (fun k hk => (hownA.lt k hk).1)
        have hown2 : w2.ownsRow w.heap.size 3 1 v' (done ++ [v]).length (i64s (done ++ [v])) := by
          rw [i64s_snoc]; simpa using hown'
        clear hown' hgrow hownA hown hb hb1 h1
        go_wp2
        go_roundw
        case rel => exact ⟨str r, done ++ [v], rfl, hrs, by simpa using Nat.succ_le_of_lt hlt, by simp, hown2, hb2, by rw [str_toList]; exact HS.out⟩
        case measure => simp [intOf]; omega
    · have h0 : takeN n s.data.toList = some (done, x.data.toList) := HL.out.done (by omega)
      have H0 := Lib.hid h0
      clear h0
      go_wp2
      go_ret3
      exact ⟨hb, .inr ⟨done, x.data.toList, _, H0.out, by rw [str_data]; rfl, hown⟩⟩
theorem ref_take_all_none (s : ByteArray) (n : Nat) (w : World) (hs : s.size ≤ 140737488355328) (hn : n ≤ 64) (h : takeN n s.data.toList = none) :
    Calls Try.prog 63 #[.string s, .int .i64 (n : Int)] w fun e w' => e = .returned (.tuple #[.slice none 0 0, .string ⟨#[]⟩, .int .i64 2]) ∧ Below w.heap.size w w' :=
  (ref_take_all_good s n w hs hn).mono fun e w' hp => by
    rw [h] at hp
    obtain ⟨hb, ⟨_, he⟩ | ⟨vs, r, v, h2, _⟩⟩ := hp
    · exact ⟨he, hb⟩
    · cases h2
theorem ref_take_all_some (s : ByteArray) (n : Nat) (vs : List Int) (r : List UInt8) (w : World) (hs : s.size ≤ 140737488355328) (hn : n ≤ 64) (h : takeN n s.data.toList = some (vs, r)) :
    Calls Try.prog 63 #[.string s, .int .i64 (n : Int)] w fun e w' => ∃ a c, e = .returned (.tuple #[.slice a vs.length c, .string (str r), .int .i64 0]) ∧ w'.ownsRow w.heap.size 3 1 (.slice a vs.length c) vs.length (i64s vs) ∧ Below w.heap.size w w' :=
  (ref_take_all_good s n w hs hn).mono fun e w' hp => by
    rw [h] at hp
    obtain ⟨hb, ⟨h2, _⟩ | ⟨vs', r', v, h2, he, ho⟩⟩ := hp
    · cases h2
    · cases h2
      obtain ⟨a, c, rfl, _⟩ := Sl.own ho
      exact ⟨a, c, he, ho, hb⟩
end Go.Proofs.Ytfjnmjibifefgaa
