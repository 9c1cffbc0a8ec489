/- What a call leaves of a group; New, Gen, Next, Members, Owners. -/
import Derived.Test.YtocmhmfaehnliaaGrMem
import Derived.Test.YtocmhmfaehnliaaGrBeg
import Derived.Test.YtocmhmfaehnliaaGrDelJ
import Derived.Test.YtocmhmfaehnliaaGrDelL
import Derived.Test.YtocmhmfaehnliaaGrDelT
import Derived.Deep.RegionHeld3
namespace Go.Proofs.Ytocmhmfaehnliaa
open Go.RowKit Vm
set_option linter.unusedVariables false
set_option linter.unusedSimpArgs false

def GrP (g : Nat) (a b : Option Addr) (G' : Gr) (E : Value) (w : World) (e : Ending) (w' : World) : Prop := e = .returned E ∧ ∃ a' c' b' d', GrW w' g G' a' c' b' d' ∧ Mvs w w' (SF g a b) (SF g a' b')
theorem GrP.same {w w' : World} {g : Nat} {G : Gr} {a : Option Addr} {c : Nat} {b : Option Addr} {d : Nat} (E : Value) (h : GrW w g G a c b d) (hb : Below w.heap.size w w') : GrP g a b G E w (.returned E) w' :=
  ⟨rfl, a, c, b, d, h.keep hb, Mvs.below _ hb⟩
def newG (parts : Nat) (st : Bool) (gen nxt : Int) : Gr := ⟨st, gen, nxt, 0, [], List.replicate parts 0⟩
def newOk (parts gen nxt : Int) : Bool := decide (1 ≤ parts) && decide (parts ≤ 4) && (decide (0 ≤ gen) && decide (gen ≤ 1099511627776)) && (decide (1 ≤ nxt) && decide (nxt ≤ 1099511627776))
theorem newG_ok {parts : Nat} {st : Bool} {gen nxt : Int} (h : newOk parts gen nxt = true) : GOk (newG parts st gen nxt) 0 := by
  unfold newOk at h
  simp at h
  refine ⟨by simp [newG], by simp [newG], by simp [newG], ?_, ?_, ?_, ?_, ?_, ?_, by simp [newG], ?_⟩
  · show 0 ≤ gen; omega
  · show gen ≤ _; omega
  · show 1 ≤ nxt; omega
  · show nxt ≤ _; omega
  · show 1 ≤ (List.replicate parts (0 : Int)).length; rw [List.length_replicate]; omega
  · show (List.replicate parts (0 : Int)).length ≤ 4; rw [List.length_replicate]; omega
  · intro o ho
    have := List.eq_of_mem_replicate ho
    show 0 ≤ o ∧ o < nxt
    omega
def NewPost (st : Bool) (parts : Nat) (gen nxt : Int) (w : World) (e : Ending) (w' : World) : Prop := ∃ g b d, e = .returned (.tuple #[.pointer (some ⟨g, 0, none⟩), .int .i64 0]) ∧ GrW w' g (newG parts st gen nxt) none 0 b d ∧ (∀ k, SF g none b k → w.heap.size ≤ k) ∧ Below w.heap.size w w'
set_option maxRecDepth 100000 in
set_option maxHeartbeats 4000000 in
theorem gnew_walk (parts : Nat) (st : Bool) (gen nxt : Int) (w : World) (h : newOk parts gen nxt = true) :
    Calls Try.prog 9 #[.int .i64 parts, .bool st, .int .i64 gen, .int .i64 nxt] w (NewPost st parts gen nxt w) := by
  obtain ⟨i0, hi, hz0, hz1, hz2⟩ := info_parts info_i64
  unfold newOk at h
  simp at h
  obtain ⟨⟨⟨h1, h2⟩, h3, h4⟩, h5, h6⟩ := h
  have q1 : ¬ (parts : Int) < 1 := by omega
  have q2 : ¬ 4 < (parts : Int) := by omega
  have q3 : ¬ gen < 0 := by omega
  have q4 : ¬ 1099511627776 < gen := by omega
  have q5 : ¬ nxt < 1 := by omega
  have q6 : ¬ 1099511627776 < nxt := by omega
  go_enter Try.func9, Try.ntmps9
  go_wp2_with (at_make; refine wpList_make_full _ rfl _ _ 39 rfl w.heap.size 3 i0 (.int .i64 0) 1 Try.underlying39 hi hz0 hz1 .i64 .i64 _ _ parts rfl rfl rfl rfl (by rw [hz2]; omega) (by unfold maxLen; omega) (Nat.le_refl _) ?_; intro w0 own0 grow0)
  rw [ints_made] at own0
  have hb0 : Below w.heap.size w w0 := (Below.refl _ _).grown grow0 (Nat.le_refl _) (fun k hk => by cases hk)
  have HO := Lib.hid own0
  have hlt0 := (own_low own0 _ rfl).2
  simp only at hlt0
  clear own0 grow0
  have hal := balloc w0 (.cells #[.bool st, .int .i64 gen, .int .i64 nxt, .int .i64 0, .slice none 0 0, .slice (some ⟨w.heap.size, 0, none⟩) parts parts] 66)
  have hW := Lib.hid (Whole.new w0 66 #[.bool st, .int .i64 gen, .int .i64 nxt, .int .i64 0, .slice none 0 0, .slice (some ⟨w.heap.size, 0, none⟩) parts parts])
  go_wp2_with fail
  go_ret2
  have hown := ownN_base (own_keep HO.out hal) (base' := 0) (Nat.zero_le _)
  refine ⟨w0.heap.size, some ⟨w.heap.size, 0, none⟩, parts, rfl, ⟨?_, World.ownsRow_nil _ _ _ _, ?_⟩, ?_, gtrans hb0 hal⟩
  · have := hW.out
    simpa [newG] using this
  · simpa [newG, part] using hown
  · rintro k (rfl | ⟨x, hx, rfl⟩ | ⟨x, hx, rfl⟩)
    · omega
    · cases hx
    · injection hx with hx
      subst hx
      exact Nat.le_refl _
def NewBad (w : World) (e : Ending) (w' : World) : Prop := e = .returned (.tuple #[.pointer none, .int .i64 1]) ∧ Below w.heap.size w w'
set_option maxRecDepth 100000 in
set_option maxHeartbeats 4000000 in
theorem gnew_bad (parts : Int) (st : Bool) (gen nxt : Int) (w : World) (h : newOk parts gen nxt = false) :
    Calls Try.prog 9 #[.int .i64 parts, .bool st, .int .i64 gen, .int .i64 nxt] w (NewBad w) := by
  have h' : parts < 1 ∨ (¬ parts < 1 ∧ 4 < parts) ∨ (¬ parts < 1 ∧ ¬ 4 < parts ∧ gen < 0) ∨ (¬ parts < 1 ∧ ¬ 4 < parts ∧ ¬ gen < 0 ∧ 1099511627776 < gen) ∨ (¬ parts < 1 ∧ ¬ 4 < parts ∧ ¬ gen < 0 ∧ ¬ 1099511627776 < gen ∧ nxt < 1) ∨ (¬ parts < 1 ∧ ¬ 4 < parts ∧ ¬ gen < 0 ∧ ¬ 1099511627776 < gen ∧ ¬ nxt < 1 ∧ 1099511627776 < nxt) := by
    unfold newOk at h
    simp at h
    omega
  clear h
  rcases h' with h1 | ⟨h1, h2⟩ | ⟨h1, h2, h3⟩ | ⟨h1, h2, h3, h4⟩ | ⟨h1, h2, h3, h4, h5⟩ | ⟨h1, h2, h3, h4, h5, h6⟩ <;>
  · go_enter Try.func9, Try.ntmps9
    go_wp2_with fail
    go_ret2
    exact ⟨rfl, Below.refl _ _⟩
theorem ggen_walk (G : Gr) (g : Nat) (a : Option Addr) (c : Nat) (b : Option Addr) (d : Nat) (w : World) (h : GrW w g G a c b d) : Calls Try.prog 22 #[.pointer (some ⟨g, 0, none⟩)] w fun e w' => e = .returned (.int .i64 G.g) ∧ Below w.heap.size w w' := by
  obtain ⟨m0, m1, m2, m3, m4, m5, hfz⟩ := h.six
  clear h hfz
  go_enter Try.func22, Try.ntmps22
  go_wp2_with fail
  go_ret
  exact ⟨rfl, Below.refl _ _⟩
theorem gnext_walk (G : Gr) (g : Nat) (a : Option Addr) (c : Nat) (b : Option Addr) (d : Nat) (w : World) (h : GrW w g G a c b d) : Calls Try.prog 23 #[.pointer (some ⟨g, 0, none⟩)] w fun e w' => e = .returned (.int .i64 G.n) ∧ Below w.heap.size w w' := by
  obtain ⟨m0, m1, m2, m3, m4, m5, hfz⟩ := h.six
  clear h hfz
  go_enter Try.func23, Try.ntmps23
  go_wp2_with fail
  go_ret
  exact ⟨rfl, Below.refl _ _⟩
theorem clone_i64 (l : List Int) (N : Nat) (a : Option Addr) (c : Nat) (w : World) (hN : l.length = N) (hNm : N ≤ 1000) (h : Sl w w.heap.size a (i64s l)) :
    Calls Try.prog 38 #[.slice a N c] w fun e w' => ∃ a1 c1, e = .returned (.slice a1 N c1) ∧ w'.ownsRow w.heap.size 3 1 (.slice a1 N c1) N (i64s l) ∧ Below w.heap.size w w' := by
  rcases Nat.eq_zero_or_pos N with h0 | h0
  · have hl : l = [] := List.eq_nil_of_length_eq_zero (by omega)
    subst hl
    subst h0
    cases a with
    | none => exact (Try.slices_Clone_int_nil 0 c w).mono fun e w' ⟨he, hw⟩ => by subst hw; exact ⟨none, 0, he, World.ownsRow_nil _ _ _ _, Below.refl _ _⟩
    | some x =>
      refine (Try.slices_Clone_int_zero x c w).mono ?_
      rintro e w' ⟨v', he, ho, _, hb⟩
      obtain ⟨a2, c2, rfl⟩ := ownN_shape ho
      exact ⟨a2, c2, he, ho, hb⟩
  · obtain ⟨b, off, rfl, hb, hc⟩ := h.ints (by omega)
    refine (Try.slices_Clone_int b off N c l w (by omega) (by omega) hc).mono ?_
    rintro e w' ⟨v', he, ho, _, hb⟩
    obtain ⟨a2, c2, rfl⟩ := ownN_shape ho
    rw [List.take_of_length_le (by omega)] at ho
    exact ⟨a2, c2, he, ho, hb⟩
/-- A row of its own. -/
def MbPost (L : List Mb) (w : World) (e : Ending) (w' : World) : Prop := ∃ a' c', e = .returned (.slice a' L.length c') ∧ w'.ownsRow w.heap.size 49 3 (.slice a' L.length c') L.length (mbCells L) ∧ Below w.heap.size w w'
def IsPost (L : List Int) (w : World) (e : Ending) (w' : World) : Prop := ∃ a' c', e = .returned (.slice a' L.length c') ∧ w'.ownsRow w.heap.size 3 1 (.slice a' L.length c') L.length (i64s L) ∧ Below w.heap.size w w'
theorem gmembers_walk (G : Gr) (g : Nat) (a : Option Addr) (c : Nat) (b : Option Addr) (d : Nat) (w : World) (hNm : G.L.length ≤ 1000) (h : GrW w g G a c b d) : Calls Try.prog 17 #[.pointer (some ⟨g, 0, none⟩)] w (MbPost G.L w) := by
  have hK := Lib.hid (clone_mb G.L G.L.length a c w.heap.size w rfl (by omega) (ownN_sl h.rowL) (Nat.le_refl _))
  obtain ⟨m0, m1, m2, m3, m4, m5, hfz⟩ := h.six
  clear h hfz
  go_enter Try.func17, Try.ntmps17
  go_wp2_with fail
  refine hK.out.mono ?_
  rintro e w1 ⟨a1, c1, rfl, own1, b1⟩
  go_wp2_with fail
  go_ret
  exact ⟨a1, c1, rfl, own1, b1⟩
theorem gowners_walk (G : Gr) (g : Nat) (a : Option Addr) (c : Nat) (b : Option Addr) (d : Nat) (w : World) (hNm : G.O.length ≤ 1000) (h : GrW w g G a c b d) : Calls Try.prog 18 #[.pointer (some ⟨g, 0, none⟩)] w (IsPost G.O w) := by
  have hK := Lib.hid (clone_i64 G.O G.O.length b d w rfl (by omega) (ownN_sl h.rowO))
  obtain ⟨m0, m1, m2, m3, m4, m5, hfz⟩ := h.six
  clear h hfz
  go_enter Try.func18, Try.ntmps18
  go_wp2_with fail
  refine hK.out.mono ?_
  rintro e w1 ⟨a1, c1, rfl, own1, b1⟩
  go_wp2_with fail
  go_ret
  exact ⟨a1, c1, rfl, own1, b1⟩
end Go.Proofs.Ytocmhmfaehnliaa
