/- The walks of TakeAll and its reference: so many numbers, or none. -/
import Derived.Test.YtfjnmjibifefgaaInfo
import Derived.Test.YtfjnmjibifefgaaTake
import Derived.Test.YtfjnmjibifefgaaPut
import Derived.Test.YtfjnmjibifefgaaSlice
import Derived.IntWalk
import Derived.Deep.QuietTactic
import Derived.BigQuiet
import Derived.OwnWalk
namespace Go.Proofs.Ytfjnmjibifefgaa
open Go.RowKit Vm
set_option linter.unusedVariables false


/-- What is answered: the numbers, in a slice of the call's own, and the rest; or nothing. -/
def RowsPost (w : World) (o : Option (List Int × List UInt8)) (e : Ending) (w' : World) : Prop :=
  Below w.heap.size w w' ∧ ((o = none ∧ e = .returned (.tuple #[.slice none 0 0, .string ⟨#[]⟩, .int .i64 2])) ∨
    ∃ vs r v, o = some (vs, r) ∧ e = .returned (.tuple #[v, .string (str r), .int .i64 0]) ∧ w'.ownsRow w.heap.size 3 1 v vs.length (i64s vs))
def BadPost (w : World) (e : Ending) (w' : World) : Prop := e = .returned (.tuple #[.slice none 0 0, .string ⟨#[]⟩, .int .i64 1]) ∧ Below w.heap.size w w'
/-- Behind k numbers: those that were taken, and what is left. -/
def Left (s : List UInt8) (n : Nat) (done : List Int) (t : List UInt8) : Prop := done.length ≤ n ∧ takeN n s = (takeN (n - done.length) t).map fun p => (done ++ p.1, p.2)
theorem Left.start (s : List UInt8) (n : Nat) : Left s n [] s := ⟨Nat.zero_le _, by simp⟩
theorem Left.step {s t r : List UInt8} {n : Nat} {done : List Int} {v : Int} (h : Left s n done t) (hlt : done.length < n) (ht : takeL t = some (v, r)) : Left s n (done ++ [v]) r := by
  refine ⟨by simp; omega, ?_⟩
  rw [h.2, show n - done.length = (n - (done ++ [v]).length) + 1 from by simp; omega, takeN_step ht]
  cases takeN (n - (done ++ [v]).length) r <;> simp
theorem Left.fail {s t : List UInt8} {n : Nat} {done : List Int} (h : Left s n done t) (hlt : done.length < n) (ht : takeL t = none) : takeN n s = none := by
  rw [h.2, show n - done.length = (n - done.length - 1) + 1 from by omega, takeN_fail ht]; rfl
theorem Left.done {s t : List UInt8} {n : Nat} {done : List Int} (h : Left s n done t) (hlt : done.length = n) : takeN n s = some (done, t) := by
  rw [h.2, hlt, Nat.sub_self, takeN]; simp
set_option maxRecDepth 100000 in
set_option maxHeartbeats 1000000 in
theorem take_all_bad (s : ByteArray) (n : Int) (w : World) (hn : n < 0 ∨ 64 < n) :
    Calls Try.prog 62 #[.string s, .int .i64 n] w (BadPost w) := by
  rcases hn with hn | hn
  · go_enter Try.func62, Try.ntmps62
    go_wp2
    go_ret3
    exact ⟨rfl, Below.refl _ _⟩
  · have h0 : ¬ n < 0 := by omega
    go_enter Try.func62, Try.ntmps62
    go_wp2
    go_ret3
    exact ⟨rfl, Below.refl _ _⟩
set_option maxRecDepth 100000 in
set_option maxHeartbeats 2000000 in
theorem take_all_good (s : ByteArray) (n : Nat) (w : World) (hs : s.size ≤ 140737488355328) (hn : n ≤ 64) :
    Calls Try.prog 62 #[.string s, .int .i64 (n : Int)] w (RowsPost w (takeN n s.data.toList)) := by
  obtain ⟨i0, hi, hz0, hz1, hz2⟩ := info_parts info_i64
  have hs0 : str [] = ⟨#[]⟩ := rfl
  go_enter Try.func62, Try.ntmps62
  go_wp2_with (at_make; refine wpList_make_own _ rfl _ _ 39 rfl w.heap.size 3 i0 (.int .i64 0) 1 Try.underlying39 hi hz0 hz1 .i64 .i64 _ n rfl rfl rfl (by rw [hz2]; omega) (by unfold maxLen; omega) (Nat.le_refl _) ?_; intro w0 hown0 hgrow0)
  have hbel0 : Below w.heap.size w w0 := (Below.refl _ w).grown hgrow0 (Nat.le_refl _) (fun k hk => by cases hk)
  go_wp2
  go_loopw [0, 7] (fun t v wr => ∃ (x : ByteArray) (done : List Int), t = .string x ∧ x.size ≤ 140737488355328 ∧ done.length ≤ n ∧ wr.ownsRow w.heap.size 3 1 v done.length (i64s done) ∧ Below w.heap.size w wr ∧ Hid (Left s.data.toList n done x.data.toList)) (fun t v _ => n - (match v with | .slice _ l _ => l | _ => 0))
  case atStart => exact ⟨s, [], rfl, hs, Nat.zero_le _, hown0, hbel0, Left.start _ _⟩
  case round =>
    obtain ⟨x, done, rfl, hx, hdl, hown, hb, HL⟩ := hrel
    have hxm : x.size ≤ maxLen := by unfold maxLen; omega
    obtain ⟨a, c, rfl, _⟩ := Sl.own hown
    by_cases hlt : done.length < n
    · rcases takeA_cases x with ha | ⟨v, r, ha, hv, he⟩
      · have h0 : takeN n s.data.toList = none := HL.out.fail hlt (by
          cases ht : takeL x.data.toList with
          | none => rfl
          | some p => unfold takeA at ha; rw [ht] at ha; simp at ha)
        have H0 := Lib.hid h0
        clear h0
        go_wp2_with fail
        refine (take_walk _ _ hxm).mono ?_
        rintro e w1 ⟨rfl, h1⟩
        go_wp2_with fail
        go_ret3
        exact ⟨hb.trans (h1.below _), .inl ⟨H0.out, rfl⟩⟩
      · have hstep := HL.out.step hlt (takeL_of he hv)
        have hrs : (str r).size ≤ 140737488355328 := by
          have h2 := congrArg List.length he
          rw [List.length_append, toList_length] at h2
          rw [str_size]; omega
        have HS := Lib.hid hstep
        clear hstep he
        go_wp2_with fail
        refine (take_walk _ _ hxm).mono ?_
        rintro e w1 ⟨rfl, h1⟩
        have hownA : w1.ownsRow w.heap.size 3 1 (.slice a done.length c) done.length (i64s done) := hown.kept (row := none) (drew_grown h1) (by cases a <;> simp [Value.ownBlock])
        have hb1 : Below w.heap.size w w1 := hb.trans (h1.below _)
        go_wp2_with (at_builtin; refine wpList_append_own _ rfl _ _ 39 rfl w.heap.size 3 i0 (.int .i64 0) 1 8 Try.underlying39 hi hz0 hz1 hz2 rfl (by decide) _ _ _ rfl (hownA.alloc _) ⟨w1.heap.size, 0, none⟩ 1 1 [.int .i64 v] rfl rfl ?c1 ?c2 ?c3 ?c4 ?c5 ?_)
        case c1 =>
          intro j u hj
          match j, hj with
          | 0, hj => simp at hj; subst hj; simp [Addr.add]
        case c2 => intro u hu; simp at hu; subst hu; rfl
        case c3 => unfold maxLen; omega
        case c4 => omega
        case c5 => have := hb1.size; simp; omega
        intro v' w2 hown' hgrow _
        have hb2 := (hb1.alloc hb1.size _).grown hgrow (by have := hb1.size; simp; omega) (fun k hk => (hownA.lt k hk).1)
        have hown2 : w2.ownsRow w.heap.size 3 1 v' (done ++ [v]).length (i64s (done ++ [v])) := by
          rw [i64s_snoc]; simpa using hown'
        clear hown' hgrow hownA hown hb hb1 h1
        obtain ⟨a2, c2, rfl, _⟩ := Sl.own hown2
        go_wp2
        go_roundw
        case rel => exact ⟨str r, done ++ [v], rfl, hrs, by simp; omega, hown2, hb2, by rw [str_toList]; exact HS.out⟩
        case measure => simp; omega
    · have h0 : takeN n s.data.toList = some (done, x.data.toList) := HL.out.done (by omega)
      have H0 := Lib.hid h0
      clear h0
      go_wp2
      go_ret3
      exact ⟨hb, .inr ⟨done, x.data.toList, _, H0.out, by rw [str_data]; rfl, hown⟩⟩
theorem take_all_none (s : ByteArray) (n : Nat) (w : World) (hs : s.size ≤ 140737488355328) (hn : n ≤ 64) (h : takeN n s.data.toList = none) :
    Calls Try.prog 62 #[.string s, .int .i64 (n : Int)] w fun e w' => e = .returned (.tuple #[.slice none 0 0, .string ⟨#[]⟩, .int .i64 2]) ∧ Below w.heap.size w w' :=
  (take_all_good s n w hs hn).mono fun e w' hp => by
    rw [h] at hp
    obtain ⟨hb, ⟨_, he⟩ | ⟨vs, r, v, h2, _⟩⟩ := hp
    · exact ⟨he, hb⟩
    · cases h2
theorem take_all_some (s : ByteArray) (n : Nat) (vs : List Int) (r : List UInt8) (w : World) (hs : s.size ≤ 140737488355328) (hn : n ≤ 64) (h : takeN n s.data.toList = some (vs, r)) :
    Calls Try.prog 62 #[.string s, .int .i64 (n : Int)] w fun e w' => ∃ a c, e = .returned (.tuple #[.slice a vs.length c, .string (str r), .int .i64 0]) ∧ w'.ownsRow w.heap.size 3 1 (.slice a vs.length c) vs.length (i64s vs) ∧ Below w.heap.size w w' :=
  (take_all_good s n w hs hn).mono fun e w' hp => by
    rw [h] at hp
    obtain ⟨hb, ⟨h2, _⟩ | ⟨vs', r', v, h2, he, ho⟩⟩ := hp
    · cases h2
    · cases h2
      obtain ⟨a, c, rfl, _⟩ := Sl.own ho
      exact ⟨a, c, he, ho, hb⟩
theorem take_all_at (s : ByteArray) (N : Int) (n : Nat) (hN : N = (n : Int)) (vs : List Int) (r : List UInt8) (w : World) (hs : s.size ≤ 140737488355328) (hn : n ≤ 64) (h : takeN n s.data.toList = some (vs, r)) :
    Calls Try.prog 62 #[.string s, .int .i64 N] w fun e w' => ∃ a c, e = .returned (.tuple #[.slice a vs.length c, .string (str r), .int .i64 0]) ∧ w'.ownsRow w.heap.size 3 1 (.slice a vs.length c) vs.length (i64s vs) ∧ Below w.heap.size w w' := by
  subst hN; exact take_all_some s n vs r w hs hn h
theorem take_none_at (s : ByteArray) (N : Int) (n : Nat) (hN : N = (n : Int)) (w : World) (hs : s.size ≤ 140737488355328) (hn : n ≤ 64) (h : takeN n s.data.toList = none) :
    Calls Try.prog 62 #[.string s, .int .i64 N] w fun e w' => e = .returned (.tuple #[.slice none 0 0, .string ⟨#[]⟩, .int .i64 2]) ∧ Below w.heap.size w w' := by
  subst hN; exact take_all_none s n w hs hn h
end Go.Proofs.Ytfjnmjibifefgaa
