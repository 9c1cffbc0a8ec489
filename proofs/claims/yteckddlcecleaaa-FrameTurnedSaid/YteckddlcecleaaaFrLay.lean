/- The walks of frame.Lay and headgateref03.Lay. -/
import Derived.Test.YteckddlcecleaaaFrCheck
import Derived.Test.YteckddlcecleaaaCrc
import Derived.Test.YteckddlcecleaaaPutAll
import Derived.Test.YteckddlcecleaaaRefPut
import Derived.Test.YteckddlcecleaaaText
import Derived.Deep.RegionHeld3
namespace Go.Proofs.Yteckddlcecleaaa
open Go.RowKit Vm Cm Fm
set_option linter.unusedVariables false

/-- Three cells of block b, and what was below a world is as it was: kept over a new block, over a call. -/
theorem held_alloc {b : Nat} {x y z : Value} {w1 w2 : World} (hx : w2.cell? ⟨b, 0, none⟩ = some x ∧ w2.cell? ⟨b, 1, none⟩ = some y ∧ w2.cell? ⟨b, 2, none⟩ = some z ∧ b < w2.heap.size ∧ Below w1.heap.size w1 w2) (o : Obj) :
    (w2.alloc o).cell? ⟨b, 0, none⟩ = some x ∧ (w2.alloc o).cell? ⟨b, 1, none⟩ = some y ∧ (w2.alloc o).cell? ⟨b, 2, none⟩ = some z ∧ b < (w2.alloc o).heap.size ∧ Below w1.heap.size w1 (w2.alloc o) := by
  obtain ⟨h0, h1, h2, h3, h4⟩ := hx
  have e : ∀ i, (w2.alloc o).cell? ⟨b, i, none⟩ = w2.cell? ⟨b, i, none⟩ := fun i => World.cell?_alloc_past _ _ _ h3
  exact ⟨by rw [e]; exact h0, by rw [e]; exact h1, by rw [e]; exact h2, by simp; omega, h4.alloc h4.size _⟩
theorem held_keep {b : Nat} {x y z : Value} {w1 w2 w3 : World} (hx : w2.cell? ⟨b, 0, none⟩ = some x ∧ w2.cell? ⟨b, 1, none⟩ = some y ∧ w2.cell? ⟨b, 2, none⟩ = some z ∧ b < w2.heap.size ∧ Below w1.heap.size w1 w2) (h : Below w2.heap.size w2 w3) :
    w3.cell? ⟨b, 0, none⟩ = some x ∧ w3.cell? ⟨b, 1, none⟩ = some y ∧ w3.cell? ⟨b, 2, none⟩ = some z ∧ b < w3.heap.size ∧ Below w1.heap.size w1 w3 :=
  ⟨(h.cell (by exact hx.2.2.2.1)).trans hx.1, (h.cell (by exact hx.2.2.2.1)).trans hx.2.1, (h.cell (by exact hx.2.2.2.1)).trans hx.2.2.1, Nat.lt_of_lt_of_le hx.2.2.2.1 h.size, hx.2.2.2.2.trans (h.mono hx.2.2.2.2.size)⟩
theorem held_start (w : World) (x y z : Value) (T : TypeId) :
    let w1 := w.alloc (.cells #[x, y, z] T)
    w1.cell? ⟨w.heap.size, 0, none⟩ = some x ∧ w1.cell? ⟨w.heap.size, 1, none⟩ = some y ∧ w1.cell? ⟨w.heap.size, 2, none⟩ = some z ∧ w.heap.size < w1.heap.size ∧ Below w1.heap.size w1 w1 := by
  refine ⟨?_, ?_, ?_, by simp, Below.refl _ _⟩ <;> (rw [World.cell?_alloc_at _ _ _ _ rfl]; rfl)

/-- PutAll of two numbers that stand in a new block. -/
theorem put_two (b n : Int) (w W : World) (hb : I64 b) (hn : I64 n) (hW : W.heap = (w.alloc (.cells #[.int .i64 b, .int .i64 n] 3)).heap) :
    Calls Try.prog 38 #[.slice (some ⟨w.heap.size, 0, none⟩) 2 2] W fun e w' => e = .returned (.string (str (putN [b, n]))) ∧ Below W.heap.size W w' := by
  refine put_all_walk (some ⟨w.heap.size, 0, none⟩) 2 2 W.heap.size [b, n] _ rfl (by omega) ?_ (Nat.le_refl _) ?_
  · refine .inr ⟨w.heap.size, 0, rfl, by rw [hW]; simp, fun j u hu => ?_⟩
    have e : ∀ a, W.cell? a = (w.alloc (.cells #[.int .i64 b, .int .i64 n] 3)).cell? a := fun a => by simp only [World.cell?, hW]
    rw [e, World.cell?_alloc_at _ _ _ _ (by omega)]
    simpa [i64s] using hu
  · intro x hx
    simp at hx
    rcases hx with rfl | rfl
    · exact hb
    · exact hn
theorem lay_text (b n : Int) (t : ByteArray) : (str (putL ((str (putN [b, n]) ++ t).size : Int)) ++ (str (putN [b, n]) ++ t)) = str (headL (bodyL b n t.data.toList)) := by
  apply ByteArray.ext
  apply Array.ext'
  have hz : (str (putN [b, n]) ++ t).size = (bodyL b n t.data.toList).length := by
    rw [ByteArray.size_append, str_size, bodyL, List.length_append, List.length_append, toList_length]; simp [putN]; omega
  rw [ByteArray.data_append, ByteArray.data_append, Array.toList_append, Array.toList_append, str_toList, str_toList, str_toList, hz]
  simp [headL, bodyL, putN]
theorem lay_seal (l : List UInt8) : str l ++ str (four (sum (str l).data.toList)) = str (seal' l) := by
  apply ByteArray.ext
  apply Array.ext'
  rw [ByteArray.data_append, Array.toList_append, str_toList, str_toList, str_toList]; rfl

set_option maxRecDepth 100000 in
set_option maxHeartbeats 2000000 in
theorem flay_yes (b n : Int) (t : ByteArray) (w : World) (hm : MayE b n t.data.toList) :
    Calls Try.prog 19 #[ev b n t] w fun e w' => e = .returned (.tuple #[.string (str (frameL b n t.data.toList)), .int .i64 0]) ∧ Below w.heap.size w w' := by
  have hi := hm.i64
  have hbl := body_len hm
  have HM := Lib.hid hm
  have hbel : Below w.heap.size w (w.alloc (.cells #[.int .i64 b, .int .i64 n, .string t] 31)) := (Below.refl _ _).alloc (Nat.le_refl _) _
  have Hs := Lib.hid (held_start w (.int .i64 b) (.int .i64 n) (.string t) 31)
  have HT := Lib.hid (lay_text b n t)
  have HS := Lib.hid (lay_seal (headL (bodyL b n t.data.toList)))
  have hz : (str (putN [b, n]) ++ t).size ≤ 65544 := by
    have : (str (putN [b, n]) ++ t).size = (bodyL b n t.data.toList).length := by
      rw [ByteArray.size_append, str_size, bodyL, List.length_append, List.length_append, toList_length]; simp [putN]; omega
    omega
  have hz2 : (str (headL (bodyL b n t.data.toList))).size ≤ 140737488355328 := by
    rw [str_size, headL_len]
    have := putL_len (i64_len (l := bodyL b n t.data.toList) (by omega))
    omega
  have P1 := Lib.hid (fun w W => put_two b n w W hi.1 hi.2)
  have P2 := Lib.hid (fun w => put_text_walk (str (putN [b, n]) ++ t) w (by omega))
  have P3 := Lib.hid (fun w => seal_walk (str (headL (bodyL b n t.data.toList))) w hz2)
  rw [HT.out] at P2
  rw [HS.out] at P3
  have hcat : ¬ (9223372036854775807 < (str (putN [b, n])).size + t.size) := by rw [ByteArray.size_append] at hz; omega
  clear hm hi hbl hz hz2
  go_enter Try.func19, Try.ntmps19
  go_wp2_with fail
  refine (fcheck_yes b n t _ HM.out).mono ?_
  rintro e w1 ⟨rfl, g1⟩
  have hk := held_keep Hs.out g1
  obtain ⟨x0, x1, x2, x3, x4⟩ := hk
  have hbel1 := hbel.trans (g1.mono hbel.size)
  have hself : Below w1.heap.size w1 w1.drew := (Below.refl _ _).drew
  clear g1 hbel x4 Hs
  go_wp2_with fail
  go_region_held3 (fun w' => w'.cell? ⟨w.heap.size, 0, none⟩ = some (.int .i64 b) ∧ w'.cell? ⟨w.heap.size, 1, none⟩ = some (.int .i64 n) ∧ w'.cell? ⟨w.heap.size, 2, none⟩ = some (.string t) ∧ w.heap.size < w'.heap.size ∧ Below w1.heap.size w1 w')
    (first | assumption | exact ⟨x0, x1, x2, x3, hself⟩ | exact held_alloc (by assumption) _)
    (first
      | (go_at_call 38; refine (P1.out _ _ (by exact rfl)).mono ?_; rintro e w3 ⟨rfl, h3⟩; have y := held_keep (by assumption) h3)
      | (go_at_call 37; refine (P2.out _).mono ?_; rintro e w3 ⟨rfl, h3⟩; have y := held_keep (by assumption) h3)
      | (go_at_call 14; refine (P3.out _).mono ?_; rintro e w3 ⟨rfl, h3⟩; have y := held_keep (by assumption) h3))
  all_goals
    go_wp2_with fail
    go_ret2
    exact ⟨rfl, hbel1.trans (y.2.2.2.2.mono hbel1.size)⟩

set_option maxHeartbeats 1000000 in
theorem flay_no (b n : Int) (t : ByteArray) (w : World) (hm : ¬ MayE b n t.data.toList) :
    Calls Try.prog 19 #[ev b n t] w fun e w' => e = .returned (.tuple #[.string ⟨#[]⟩, .int .i64 1]) ∧ Below w.heap.size w w' := by
  have HM := Lib.hid hm
  have hbel : Below w.heap.size w (w.alloc (.cells #[.int .i64 b, .int .i64 n, .string t] 31)) := (Below.refl _ _).alloc (Nat.le_refl _) _
  clear hm
  go_enter Try.func19, Try.ntmps19
  go_wp2_with fail
  refine (fcheck_no b n t _ HM.out).mono ?_
  rintro e w1 ⟨rfl, g1⟩
  go_wp2_with fail
  go_ret2
  exact ⟨rfl, hbel.trans (g1.mono hbel.size)⟩

theorem ref_lay_text (b n : Int) (t : ByteArray) : (str (putL ((str (putL b) ++ str (putL n) ++ t).size : Int)) ++ (str (putL b) ++ str (putL n) ++ t)) = str (headL (bodyL b n t.data.toList)) := by
  apply ByteArray.ext
  apply Array.ext'
  have hz : (str (putL b) ++ str (putL n) ++ t).size = (bodyL b n t.data.toList).length := by
    rw [ByteArray.size_append, ByteArray.size_append, str_size, str_size, bodyL, List.length_append, List.length_append, toList_length]; omega
  rw [ByteArray.data_append, ByteArray.data_append, ByteArray.data_append, Array.toList_append, Array.toList_append, Array.toList_append, str_toList, str_toList, str_toList, str_toList, hz]
  simp [headL, bodyL]

set_option maxRecDepth 100000 in
set_option maxHeartbeats 2000000 in
theorem ref_flay_yes (b n : Int) (t : ByteArray) (w : World) (hm : MayE b n t.data.toList) :
    Calls Try.prog 20 #[ev b n t] w fun e w' => e = .returned (.tuple #[.string (str (frameL b n t.data.toList)), .int .i64 0]) ∧ Below w.heap.size w w' := by
  have hi := hm.i64
  have hbl := body_len hm
  have HM := Lib.hid hm
  have hbel : Below w.heap.size w (w.alloc (.cells #[.int .i64 b, .int .i64 n, .string t] 31)) := (Below.refl _ _).alloc (Nat.le_refl _) _
  have Hs := Lib.hid (held_start w (.int .i64 b) (.int .i64 n) (.string t) 31)
  have HT := Lib.hid (ref_lay_text b n t)
  have HS := Lib.hid (lay_seal (headL (bodyL b n t.data.toList)))
  have hz : (str (putL b) ++ str (putL n) ++ t).size ≤ 65544 := by
    have : (str (putL b) ++ str (putL n) ++ t).size = (bodyL b n t.data.toList).length := by
      rw [ByteArray.size_append, ByteArray.size_append, str_size, str_size, bodyL, List.length_append, List.length_append, toList_length]; omega
    omega
  have hz2 : (str (headL (bodyL b n t.data.toList))).size ≤ 140737488355328 := by
    rw [str_size, headL_len]
    have := putL_len (i64_len (l := bodyL b n t.data.toList) (by omega))
    omega
  have P1 := Lib.hid (fun (x : Int) w (h : I64 x) => ref_put_walk x w h)
  have P2 := Lib.hid (fun w => ref_text_walk (str (putL b) ++ str (putL n) ++ t) w (by omega))
  have P3 := Lib.hid (fun w => ref_seal_walk (str (headL (bodyL b n t.data.toList))) w hz2)
  rw [HT.out] at P2
  rw [HS.out] at P3
  rw [ByteArray.size_append, ByteArray.size_append] at hz
  have hcat1 : ¬ (9223372036854775807 < (str (putL b)).size + (str (putL n)).size) := by omega
  have hcat2 : ¬ (9223372036854775807 < (str (putL b)).size + (str (putL n)).size + t.size) := by omega
  obtain ⟨i1, i2⟩ := hi
  have I1 := Lib.hid i1
  have I2 := Lib.hid i2
  clear hm i1 i2 hbl hz hz2
  go_enter Try.func20, Try.ntmps20
  go_wp2_with fail
  refine (fmay_yes b n t _ HM.out).mono ?_
  rintro e w1 ⟨rfl, g1⟩
  have hk := held_keep Hs.out g1
  obtain ⟨x0, x1, x2, x3, x4⟩ := hk
  have hbel1 := hbel.trans (g1.mono hbel.size)
  have hself : Below w1.heap.size w1 w1.drew := (Below.refl _ _).drew
  clear g1 hbel x4 Hs
  go_wp2_with fail
  go_region_held3 (fun w' => w'.cell? ⟨w.heap.size, 0, none⟩ = some (.int .i64 b) ∧ w'.cell? ⟨w.heap.size, 1, none⟩ = some (.int .i64 n) ∧ w'.cell? ⟨w.heap.size, 2, none⟩ = some (.string t) ∧ w.heap.size < w'.heap.size ∧ Below w1.heap.size w1 w')
    (first | assumption | exact ⟨x0, x1, x2, x3, hself⟩ | exact held_alloc (by assumption) _)
    (first
      | (go_at_call 27; refine (P1.out _ _ (by first | exact I1.out | exact I2.out)).mono ?_; rintro e w3 ⟨rfl, h3⟩; have y := held_keep (by assumption) h3)
      | (go_at_call 41; refine (P2.out _).mono ?_; rintro e w3 ⟨rfl, h3⟩; have y := held_keep (by assumption) h3)
      | (go_at_call 40; refine (P3.out _).mono ?_; rintro e w3 ⟨rfl, h3⟩; have y := held_keep (by assumption) h3))
  all_goals
    go_wp2_with fail
    go_ret2
    exact ⟨rfl, hbel1.trans (y.2.2.2.2.mono hbel1.size)⟩
set_option maxHeartbeats 1000000 in
theorem ref_flay_no (b n : Int) (t : ByteArray) (w : World) (hm : ¬ MayE b n t.data.toList) :
    Calls Try.prog 20 #[ev b n t] w fun e w' => e = .returned (.tuple #[.string ⟨#[]⟩, .int .i64 1]) ∧ Below w.heap.size w w' := by
  have HM := Lib.hid hm
  have hbel : Below w.heap.size w (w.alloc (.cells #[.int .i64 b, .int .i64 n, .string t] 31)) := (Below.refl _ _).alloc (Nat.le_refl _) _
  clear hm
  go_enter Try.func20, Try.ntmps20
  go_wp2_with fail
  refine (fmay_no b n t _ HM.out).mono ?_
  rintro e w1 ⟨rfl, g1⟩
  go_wp2_with fail
  go_ret2
  exact ⟨rfl, hbel.trans (g1.mono hbel.size)⟩
end Go.Proofs.Yteckddlcecleaaa
