/- The walk of batch.PutRecord. -/
import Derived.Test.YtdeenkpkcibebaaRw
import Derived.Test.YtdeenkpkcibebaaText
import Derived.Deep.RegionHeld3
import Derived.Deep.RegionWith
namespace Go.Proofs.Ytdeenkpkcibebaa
open Go.RowKit Vm Bm
set_option linter.unusedVariables false

theorem rec_text (r : Rec) : str (putN [r.k, r.t]) ++ (str (putL ((str r.x).size : Int)) ++ str r.x) = str (recL r) := by
  apply ByteArray.ext
  apply Array.ext'
  rw [ByteArray.data_append, ByteArray.data_append, Array.toList_append, Array.toList_append, str_toList, str_toList, str_toList, str_toList, str_size]
  simp [recL, putN]

/-- Three cells of a record's box. -/
abbrev Tr (w1 w2 : World) (g : Nat) (r : Rec) : Prop := w2.cell? ⟨g, 0, none⟩ = some (.int .i64 r.k) ∧ w2.cell? ⟨g, 1, none⟩ = some (.int .i64 r.t) ∧ w2.cell? ⟨g, 2, none⟩ = some (.string (str r.x)) ∧ g < w2.heap.size ∧ Below w1.heap.size w1 w2
theorem tr_keep {w1 w2 w3 : World} {g : Nat} {r : Rec} (hx : Tr w1 w2 g r) (h : Below w2.heap.size w2 w3) : Tr w1 w3 g r := by
  obtain ⟨h0, h1, h2, hg, hb⟩ := hx
  have e : ∀ i, w3.cell? ⟨g, i, none⟩ = w2.cell? ⟨g, i, none⟩ := fun i => h.cell (p := ⟨g, i, none⟩) hg
  exact ⟨by rw [e]; exact h0, by rw [e]; exact h1, by rw [e]; exact h2, Nat.lt_of_lt_of_le hg h.size, hb.trans (h.mono hb.size)⟩
theorem tr_alloc {w1 w2 : World} {g : Nat} {r : Rec} (hx : Tr w1 w2 g r) (o : Obj) : Tr w1 (w2.alloc o) g r :=
  tr_keep hx ((Below.refl _ _).alloc (Nat.le_refl _) o)
theorem tr_alloc_drew {w1 w2 : World} {g : Nat} {r : Rec} (hx : Tr w1 w2.drew g r) (o : Obj) : Tr w1 (w2.alloc o).drew g r :=
  tr_keep hx (show Below w2.drew.heap.size w2.drew (w2.drew.alloc o) from (Below.refl _ _).alloc (Nat.le_refl _) o)

set_option maxRecDepth 100000 in
set_option maxHeartbeats 2000000 in
theorem put_rec_walk (r : Rec) (w : World) (hk : I64 r.k) (ht : I64 r.t) (hx : r.x.length ≤ 140737488351232) :
    Calls Try.prog 29 #[rv r] w fun e w' => e = .returned (.string (str (recL r))) ∧ Below w.heap.size w w' := by
  have i1 : ∀ x ∈ [r.k, r.t], I64 x := fun x hx => by simp at hx; rcases hx with rfl | rfl; exact hk; exact ht
  have hz : (str r.x).size ≤ 140737488351232 := by rw [str_size]; exact hx
  have P1 := Lib.hid (fun g W => put_rw [r.k, r.t] 2 g W rfl (by omega) i1)
  have P2 := Lib.hid (fun W => put_text_walk (str r.x) W hz)
  have z1 := putN_small _ i1 (by simp)
  have z2 : (str (putL ((str r.x).size : Int)) ++ str r.x).size ≤ 140737488351242 := by
    have := putL_len (n := ((str r.x).size : Int)) ⟨by omega, by omega⟩
    rw [ByteArray.size_append, str_size]; omega
  have hE := rec_text r
  obtain ⟨k, t, x⟩ := r
  simp only at hk ht hx i1 hz P1 P2 z1 z2 hE
  generalize str (putN [k, t]) = X at *
  generalize hT : str (putL ((str x).size : Int)) ++ str x = Y at *
  clear hT
  have HE := Lib.hid hE
  have q1 : ¬ (9223372036854775807 < X.size + Y.size) := by omega
  have hbel : Below w.heap.size w (w.alloc (.cells #[.int .i64 k, .int .i64 t, .string (str x)] 43)) := (Below.refl _ _).alloc (Nat.le_refl _) _
  obtain ⟨W, hW⟩ : ∃ W, W = w.alloc (.cells #[.int .i64 k, .int .i64 t, .string (str x)] 43) := ⟨_, rfl⟩
  have hS0 : Tr W W.drew w.heap.size ⟨k, t, x⟩ := by
    refine ⟨?_, ?_, ?_, ?_, (Below.refl _ _).drew⟩
    · show W.cell? ⟨w.heap.size, 0, none⟩ = _; rw [hW, World.cell?_alloc_at _ _ _ _ rfl]; rfl
    · show W.cell? ⟨w.heap.size, 1, none⟩ = _; rw [hW, World.cell?_alloc_at _ _ _ _ rfl]; rfl
    · show W.cell? ⟨w.heap.size, 2, none⟩ = _; rw [hW, World.cell?_alloc_at _ _ _ _ rfl]; rfl
    · rw [hW]; simp
  have hwz : w.heap.size < W.heap.size := by rw [hW]; simp
  rw [← hW] at hbel
  unfold Tr at hS0
  simp only at hS0
  clear i1 hz z1 z2 hE hk ht hx
  unfold rv
  go_enter Try.func29, Try.ntmps29
  go_wp2_with fail
  rw [← hW]
  clear hW
  go_region_held3 (fun w' => w'.cell? ⟨w.heap.size, 0, none⟩ = some (.int .i64 k) ∧ w'.cell? ⟨w.heap.size, 1, none⟩ = some (.int .i64 t) ∧ w'.cell? ⟨w.heap.size, 2, none⟩ = some (.string (str x)) ∧ w.heap.size < w'.heap.size ∧ Below W.heap.size W w')
    (first | with_reducible assumption | with_reducible exact tr_alloc (r := ⟨k, t, x⟩) (by with_reducible assumption) _ | with_reducible exact tr_alloc_drew (r := ⟨k, t, x⟩) hS0 _)
    (first
      | (go_at_call 58; refine (P2.out _).mono ?_; rintro e w4 ⟨rfl, h4⟩; have y : Tr W w4 w.heap.size ⟨k, t, x⟩ := tr_keep (by first | with_reducible assumption | with_reducible exact tr_alloc (by with_reducible assumption) _ | with_reducible exact tr_alloc_drew hS0 _) h4; unfold Tr at y; simp only at y)
      | (go_at_call 49; refine (P1.out _ _ (by first | exact (Rw.new2 (by with_reducible rfl) (by first | with_reducible rfl | (simp; done)) (by exact rfl)) | exact (Rw.drew2 (by with_reducible rfl) (Rw.new2 (by with_reducible rfl) (by first | with_reducible rfl | (simp; done)) (by exact rfl))) | exact Rw.keep h4 (Rw.new2 (by with_reducible rfl) (by first | with_reducible rfl | (simp; done)) (by exact rfl)) | exact Rw.keep h4 (Rw.drew2 (by with_reducible rfl) (Rw.new2 (by with_reducible rfl) (by first | with_reducible rfl | (simp; done)) (by exact rfl))))).mono ?_; rintro e w3 ⟨rfl, h3⟩; have y : Tr W w3 w.heap.size ⟨k, t, x⟩ := tr_keep (by first | with_reducible assumption | with_reducible exact tr_alloc (by with_reducible assumption) _ | with_reducible exact tr_alloc_drew hS0 _) h3; unfold Tr at y; simp only at y))
  all_goals
    go_wp2_with fail
    go_ret
    exact ⟨by rw [HE.out]; rfl, hbel.trans (y.2.2.2.2.mono hbel.size)⟩
end Go.Proofs.Ytdeenkpkcibebaa
