/- The walk of fold.Encode. -/
import Derived.Test.YtnjojbanbcahnaaFoldCheck
import Derived.Test.YtnjojbanbcahnaaFoldAll
import Derived.Test.YtnjojbanbcahnaaPutAll
import Derived.Test.YtnjojbanbcahnaaText
import Derived.Deep.RegionHeld3
import Derived.Deep.RegionWith
namespace Go.Proofs.Ytnjojbanbcahnaa
open Go.RowKit Vm Fo
set_option linter.unusedVariables false

/-- A block that begins with so many numbers. -/
def Rw (W : World) (g : Nat) (xs : List Int) : Prop := g < W.heap.size ∧ ∀ (j : Nat) (u : Value), (i64s xs)[j]? = some u → W.cell? ⟨g, j, none⟩ = some u
theorem Rw.new {W w : World} {g : Nat} {cs : Array Value} {t : TypeId} {xs : List Int} (hW : W.heap = (w.alloc (.cells cs t)).heap) (hg : g = w.heap.size) (hc : cs.toList = i64s xs) : Rw W g xs := by
  subst hg
  refine ⟨by rw [hW]; simp, fun j u hu => ?_⟩
  have e : ∀ a, W.cell? a = (w.alloc (.cells cs t)).cell? a := fun a => by simp only [World.cell?, hW]
  rw [e, World.cell?_alloc_at _ _ _ _ rfl, ← Array.getElem?_toList, hc]
  exact hu
theorem Rw.new2 {W w : World} {g : Nat} {cs : Array Value} {t : TypeId} {xs : List Int} (hW : W = w.alloc (.cells cs t)) (hg : g = w.heap.size) (hc : cs.toList = i64s xs) : Rw W g xs := Rw.new (by rw [hW]) hg hc
theorem Rw.alloc {W : World} {g : Nat} {xs : List Int} (h : Rw W g xs) (o : Obj) : Rw (W.alloc o) g xs :=
  ⟨Nat.lt_of_lt_of_le h.1 (by simp), fun j u hu => (World.cell?_alloc_past _ _ _ h.1).trans (h.2 j u hu)⟩
theorem Rw.alloc2 {W w : World} {g : Nat} {o : Obj} {xs : List Int} (hW : W = w.alloc o) (h : Rw w g xs) : Rw W g xs := by rw [hW]; exact h.alloc o
theorem Rw.drew2 {W w : World} {g : Nat} {xs : List Int} (hW : W = w.drew) (h : Rw w g xs) : Rw W g xs := by rw [hW]; exact ⟨h.1, h.2⟩
theorem Rw.keep {W W' : World} {g : Nat} {xs : List Int} (hb : Below W.heap.size W W') (h : Rw W g xs) : Rw W' g xs :=
  ⟨Nat.lt_of_lt_of_le h.1 hb.size, fun j u hu => (hb.cell (p := ⟨g, j, none⟩) h.1).trans (h.2 j u hu)⟩
theorem put_rw (xs : List Int) (n : Nat) (g : Nat) (W : World) (hn : n = xs.length) (hm : n ≤ 100) (hx : ∀ x ∈ xs, I64 x) (h : Rw W g xs) :
    Calls Try.prog 49 #[.slice (some ⟨g, 0, none⟩) n n] W fun e w' => e = .returned (.string (str (putN xs))) ∧ Below W.heap.size W w' :=
  put_all_walk (some ⟨g, 0, none⟩) n n W.heap.size xs W hn (by omega) (.inr ⟨g, 0, rfl, h.1, fun j u hu => by rw [Nat.zero_add]; exact h.2 j u hu⟩) (Nat.le_refl _) hx

/-- Ten cells of a block, kept over a new block, over a call. -/
abbrev Tn (w1 w2 : World) (g : Nat) (a : Ag) : Prop := w2.cell? ⟨g, 0, none⟩ = some (.int .i64 a.count) ∧ w2.cell? ⟨g, 1, none⟩ = some (.int .i64 a.sum) ∧ w2.cell? ⟨g, 2, none⟩ = some (.int .i64 a.min) ∧ w2.cell? ⟨g, 3, none⟩ = some (.int .i64 a.max) ∧ w2.cell? ⟨g, 4, none⟩ = some (.int .i64 a.h0) ∧ w2.cell? ⟨g, 5, none⟩ = some (.int .i64 a.h1) ∧ w2.cell? ⟨g, 6, none⟩ = some (.int .i64 a.h2) ∧ w2.cell? ⟨g, 7, none⟩ = some (.int .i64 a.h3) ∧ w2.cell? ⟨g, 8, none⟩ = some (.int .i64 a.re) ∧ w2.cell? ⟨g, 9, none⟩ = some (.int .i64 a.im) ∧ g < w2.heap.size ∧ Below w1.heap.size w1 w2
theorem tn_keep {w1 w2 w3 : World} {g : Nat} {a : Ag} (hx : Tn w1 w2 g a) (h : Below w2.heap.size w2 w3) : Tn w1 w3 g a := by
  obtain ⟨h0, h1, h2, h3, h4, h5, h6, h7, h8, h9, hg, hb⟩ := hx
  have e : ∀ i, w3.cell? ⟨g, i, none⟩ = w2.cell? ⟨g, i, none⟩ := fun i => h.cell (p := ⟨g, i, none⟩) hg
  exact ⟨by rw [e]; exact h0, by rw [e]; exact h1, by rw [e]; exact h2, by rw [e]; exact h3, by rw [e]; exact h4, by rw [e]; exact h5, by rw [e]; exact h6, by rw [e]; exact h7, by rw [e]; exact h8, by rw [e]; exact h9, Nat.lt_of_lt_of_le hg h.size, hb.trans (h.mono hb.size)⟩
theorem tn_alloc {w1 w2 : World} {g : Nat} {a : Ag} (hx : Tn w1 w2 g a) (o : Obj) : Tn w1 (w2.alloc o) g a :=
  tn_keep hx ((Below.refl _ _).alloc (Nat.le_refl _) o)
theorem tn_alloc_drew {w1 w2 : World} {g : Nat} {a : Ag} (hx : Tn w1 w2.drew g a) (o : Obj) : Tn w1 (w2.alloc o).drew g a :=
  tn_keep hx (show Below w2.drew.heap.size w2.drew (w2.drew.alloc o) from (Below.refl _ _).alloc (Nat.le_refl _) o)
theorem tn_alloc_drew2 {w1 w2 : World} {g : Nat} {a : Ag} (hx : Tn w1 w2.drew g a) (o p : Obj) : Tn w1 ((w2.alloc o).alloc p).drew g a :=
  tn_alloc_drew (tn_alloc_drew hx o) p
theorem put_hist (w1 : World) (g : Nat) (a : Ag) (W : World) (ha : AgWf a) (h : Tn w1 W g a) :
    Calls Try.prog 49 #[.slice (some ⟨g, 4, none⟩) 4 4] W fun e w' => e = .returned (.string (str (putN [a.h0, a.h1, a.h2, a.h3]))) ∧ Below W.heap.size W w' := by
  obtain ⟨h0, h1, h2, h3, h4, h5, h6, h7, h8, h9, hg, hb⟩ := h
  refine put_all_walk (some ⟨g, 4, none⟩) 4 4 W.heap.size [a.h0, a.h1, a.h2, a.h3] W rfl (by omega) (.inr ⟨g, 4, rfl, hg, fun j u hu => ?_⟩) (Nat.le_refl _) ?_
  · match j, hu with
    | 0, hu => simp [i64s] at hu; subst hu; exact h4
    | 1, hu => simp [i64s] at hu; subst hu; exact h5
    | 2, hu => simp [i64s] at hu; subst hu; exact h6
    | 3, hu => simp [i64s] at hu; subst hu; exact h7
    | j + 4, hu => simp [i64s] at hu
  · intro x hx
    simp at hx
    rcases hx with rfl | rfl | rfl | rfl
    · exact ha.w0
    · exact ha.w1
    · exact ha.w2
    · exact ha.w3
/-- The bytes of what numbers came to. -/
def numsA (a : Ag) : List Int := [a.count, a.sum, a.min, a.max, a.h0, a.h1, a.h2, a.h3, a.re, a.im]
theorem numsA_i64 {a : Ag} (ha : AgWf a) : ∀ x ∈ numsA a, I64 x := by
  intro x hx
  simp [numsA] at hx
  rcases hx with rfl | rfl | rfl | rfl | rfl | rfl | rfl | rfl | rfl | rfl
  · exact ha.c
  · exact ha.s
  · exact ha.mi
  · exact ha.ma
  · exact ha.w0
  · exact ha.w1
  · exact ha.w2
  · exact ha.w3
  · exact ha.r
  · exact ha.i
theorem enc_text (a : Ag) : str (putN [a.count, a.sum, a.min, a.max]) ++ str (putN [a.h0, a.h1, a.h2, a.h3]) ++ str (putN [a.re, a.im]) = str (putN (numsA a)) := by
  apply ByteArray.ext
  apply Array.ext'
  rw [ByteArray.data_append, ByteArray.data_append, Array.toList_append, Array.toList_append, str_toList, str_toList, str_toList, str_toList]
  simp [numsA, putN]
theorem putN_small (xs : List Int) (h : ∀ x ∈ xs, I64 x) (hl : xs.length ≤ 10) : (str (putN xs)).size ≤ 100 := by
  rw [str_size]; have := putN_len xs h; omega

set_option maxRecDepth 100000 in
set_option maxHeartbeats 2000000 in
theorem fenc_yes (a : Ag) (w : World) (ha : AgWf a) (hm : May a) :
    Calls Try.prog 40 #[av a] w fun e w' => e = .returned (.tuple #[.string (str (putN (numsA a))), .int .i64 0]) ∧ Below w.heap.size w w' := by
  have HC := Lib.hid (fun w => check15_walk a w ha)
  rw [codeA_yes hm] at HC
  have hin := numsA_i64 ha
  have i1 : ∀ x ∈ [a.count, a.sum, a.min, a.max], I64 x := fun x hx => hin x (by simp [numsA] at hx ⊢; rcases hx with h | h | h | h <;> simp [h])
  have i2 : ∀ x ∈ [a.h0, a.h1, a.h2, a.h3], I64 x := fun x hx => hin x (by simp [numsA] at hx ⊢; rcases hx with h | h | h | h <;> simp [h])
  have i3 : ∀ x ∈ [a.re, a.im], I64 x := fun x hx => hin x (by simp [numsA] at hx ⊢; rcases hx with h | h <;> simp [h])
  have P1 := Lib.hid (fun g W => put_rw [a.count, a.sum, a.min, a.max] 4 g W rfl (by omega) i1)
  have P2 := Lib.hid (fun w1 g W => put_hist w1 g a W ha)
  have P3 := Lib.hid (fun g W => put_rw [a.re, a.im] 2 g W rfl (by omega) i3)
  have z1 := putN_small _ i1 (by simp)
  have z2 := putN_small _ i2 (by simp)
  have z3 := putN_small _ i3 (by simp)
  have hE := enc_text a
  generalize str (putN [a.count, a.sum, a.min, a.max]) = X at *
  generalize str (putN [a.h0, a.h1, a.h2, a.h3]) = Y at *
  generalize str (putN [a.re, a.im]) = Z at *
  have HE := Lib.hid hE
  have q1 : ¬ (9223372036854775807 < X.size + Y.size) := by omega
  have q2 : ¬ (9223372036854775807 < X.size + Y.size + Z.size) := by omega
  have hbel : Below w.heap.size w (w.alloc (.cells (avc a) 53)) := (Below.refl _ _).alloc (Nat.le_refl _) _
  have hwz : w.heap.size < (w.alloc (.cells (avc a) 53)).heap.size := by simp
  obtain ⟨c0, c1, c2, c3, c4, c5, c6, c7, c8, c9, _⟩ := (Whole.new w 53 (avc a)).ten
  have Hs := Lib.hid (show Tn (w.alloc (.cells (avc a) 53)) (w.alloc (.cells (avc a) 53)) w.heap.size a from ⟨c0, c1, c2, c3, c4, c5, c6, c7, c8, c9, hwz, Below.refl _ _⟩)
  clear hin i1 i2 i3 z1 z2 z3 hE hm ha c0 c1 c2 c3 c4 c5 c6 c7 c8 c9
  go_enter Try.func40, Try.ntmps40
  go_wp2_with fail
  refine (HC.out _).mono ?_
  rintro e w1 ⟨rfl, g1⟩
  have hk := tn_keep Hs.out g1
  obtain ⟨c0, c1, c2, c3, c4, c5, c6, c7, c8, c9, hg, _⟩ := hk
  have hbel1 := hbel.trans (g1.mono hbel.size)
  have hself : Below w1.heap.size w1 w1.drew := (Below.refl _ _).drew
  have hS0 : Tn w1 w1.drew w.heap.size a := ⟨c0, c1, c2, c3, c4, c5, c6, c7, c8, c9, hg, hself⟩
  unfold Tn at hS0
  clear g1 hbel Hs hwz
  go_wp2_with fail
  go_region_held3 (fun w' => w'.cell? ⟨w.heap.size, 0, none⟩ = some (.int .i64 a.count) ∧ w'.cell? ⟨w.heap.size, 1, none⟩ = some (.int .i64 a.sum) ∧ w'.cell? ⟨w.heap.size, 2, none⟩ = some (.int .i64 a.min) ∧ w'.cell? ⟨w.heap.size, 3, none⟩ = some (.int .i64 a.max) ∧ w'.cell? ⟨w.heap.size, 4, none⟩ = some (.int .i64 a.h0) ∧ w'.cell? ⟨w.heap.size, 5, none⟩ = some (.int .i64 a.h1) ∧ w'.cell? ⟨w.heap.size, 6, none⟩ = some (.int .i64 a.h2) ∧ w'.cell? ⟨w.heap.size, 7, none⟩ = some (.int .i64 a.h3) ∧ w'.cell? ⟨w.heap.size, 8, none⟩ = some (.int .i64 a.re) ∧ w'.cell? ⟨w.heap.size, 9, none⟩ = some (.int .i64 a.im) ∧ w.heap.size < w'.heap.size ∧ Below w1.heap.size w1 w')
    (first | with_reducible assumption | with_reducible exact tn_alloc (by with_reducible assumption) _ | with_reducible exact tn_alloc (tn_alloc (by with_reducible assumption) _) _ | with_reducible exact tn_alloc_drew hS0 _ | with_reducible exact tn_alloc_drew2 hS0 _ _)
    (first
      | (go_at_call_of 49 (2 : Nat); refine (P3.out _ _ (by first | exact (Rw.new2 (by with_reducible rfl) (by first | with_reducible rfl | (simp; done)) (by exact rfl)) | exact Rw.keep h4 (Rw.new2 (by with_reducible rfl) (by first | with_reducible rfl | (simp; done)) (by exact rfl)) | exact Rw.keep h4 (Rw.drew2 (by with_reducible rfl) (Rw.new2 (by with_reducible rfl) (by first | with_reducible rfl | (simp; done)) (by exact rfl))) | exact Rw.keep h4 (Rw.alloc2 (by with_reducible rfl) (Rw.new2 (by with_reducible rfl) (by first | with_reducible rfl | (simp; done)) (by exact rfl))) | exact Rw.keep h4 (Rw.drew2 (by with_reducible rfl) (Rw.alloc2 (by with_reducible rfl) (Rw.new2 (by with_reducible rfl) (by first | with_reducible rfl | (simp; done)) (by exact rfl)))) | exact Rw.keep h4 (Rw.keep h3 (Rw.new2 (by with_reducible rfl) (by first | with_reducible rfl | (simp; done)) (by exact rfl))) | exact Rw.keep h4 (Rw.keep h3 (Rw.drew2 (by with_reducible rfl) (Rw.new2 (by with_reducible rfl) (by first | with_reducible rfl | (simp; done)) (by exact rfl)))) | exact Rw.keep h4 (Rw.keep h3 (Rw.alloc2 (by with_reducible rfl) (Rw.new2 (by with_reducible rfl) (by first | with_reducible rfl | (simp; done)) (by exact rfl)))) | exact Rw.keep h4 (Rw.keep h3 (Rw.drew2 (by with_reducible rfl) (Rw.alloc2 (by with_reducible rfl) (Rw.new2 (by with_reducible rfl) (by first | with_reducible rfl | (simp; done)) (by exact rfl))))))).mono ?_; rintro e w5 ⟨rfl, h5⟩; have y : Tn w1 w5 w.heap.size a := tn_keep (by first | with_reducible assumption | with_reducible exact tn_alloc (by with_reducible assumption) _ | with_reducible exact tn_alloc (tn_alloc (by with_reducible assumption) _) _ | with_reducible exact tn_alloc_drew hS0 _ | with_reducible exact tn_alloc_drew2 hS0 _ _) h5; unfold Tn at y)
      | (go_at_call_of 49 (⟨w.heap.size, 4, none⟩ : Addr); refine (P2.out w1 _ _ (by first | with_reducible assumption | with_reducible exact tn_alloc (by with_reducible assumption) _ | with_reducible exact tn_alloc (tn_alloc (by with_reducible assumption) _) _ | with_reducible exact tn_alloc_drew hS0 _ | with_reducible exact tn_alloc_drew2 hS0 _ _)).mono ?_; rintro e w4 ⟨rfl, h4⟩; have y : Tn w1 w4 w.heap.size a := tn_keep (by first | with_reducible assumption | with_reducible exact tn_alloc (by with_reducible assumption) _ | with_reducible exact tn_alloc (tn_alloc (by with_reducible assumption) _) _ | with_reducible exact tn_alloc_drew hS0 _ | with_reducible exact tn_alloc_drew2 hS0 _ _) h4; unfold Tn at y)
      | (go_at_call_of 49 (4 : Nat); refine (P1.out _ _ (by first | exact (Rw.new2 (by with_reducible rfl) (by first | with_reducible rfl | (simp; done)) (by exact rfl)) | exact (Rw.drew2 (by with_reducible rfl) (Rw.new2 (by with_reducible rfl) (by first | with_reducible rfl | (simp; done)) (by exact rfl))) | exact (Rw.alloc2 (by with_reducible rfl) (Rw.new2 (by with_reducible rfl) (by first | with_reducible rfl | (simp; done)) (by exact rfl))) | exact (Rw.drew2 (by with_reducible rfl) (Rw.alloc2 (by with_reducible rfl) (Rw.new2 (by with_reducible rfl) (by first | with_reducible rfl | (simp; done)) (by exact rfl)))))).mono ?_; rintro e w3 ⟨rfl, h3⟩; have y : Tn w1 w3 w.heap.size a := tn_keep (by first | with_reducible assumption | with_reducible exact tn_alloc (by with_reducible assumption) _ | with_reducible exact tn_alloc (tn_alloc (by with_reducible assumption) _) _ | with_reducible exact tn_alloc_drew hS0 _ | with_reducible exact tn_alloc_drew2 hS0 _ _) h3; unfold Tn at y))
  all_goals
    go_wp2_with fail
    go_ret2
    exact ⟨by rw [HE.out]; rfl, hbel1.trans (y.2.2.2.2.2.2.2.2.2.2.2.mono hbel1.size)⟩

set_option maxRecDepth 100000 in
set_option maxHeartbeats 1000000 in
theorem fenc_no (a : Ag) (w : World) (ha : AgWf a) (hm : ¬ May a) :
    Calls Try.prog 40 #[av a] w fun e w' => e = .returned (.tuple #[.string ⟨#[]⟩, .int .i64 1]) ∧ Below w.heap.size w w' := by
  have HC := Lib.hid (fun w => check15_walk a w ha)
  rw [codeA_no hm] at HC
  have hbel : Below w.heap.size w (w.alloc (.cells (avc a) 53)) := (Below.refl _ _).alloc (Nat.le_refl _) _
  clear hm ha
  go_enter Try.func40, Try.ntmps40
  go_wp2_with fail
  refine (HC.out _).mono ?_
  rintro e w1 ⟨rfl, g1⟩
  go_wp2_with fail
  go_ret2
  exact ⟨rfl, hbel.trans (g1.mono hbel.size)⟩
end Go.Proofs.Ytnjojbanbcahnaa
