/- Mail as memory; the small calls of package mail. -/
import Derived.Test.YtkechaniaidieaaPk
import Derived.Test.YtkechaniaidieaaWhole
import Derived.Test.YtkechaniaidieaaApp
import Derived.Test.YtkechaniaidieaaKit
import Derived.BigQuiet
import Derived.Handy
namespace Go.Proofs.Ytkechaniaidieaa
open Go.RowKit Vm
set_option linter.unusedVariables false
set_option linter.unusedSimpArgs false

def stCells (T : List (List UInt8)) : List Value := T.map fun t => .string (str t)
theorem stCells_at (T : List (List UInt8)) (i : Nat) (h : i < T.length) : (stCells T)[i]? = some (.string (str (T.getD i []))) := by simp [stCells, List.getD, h]
theorem Sl.st {w : World} {B : Nat} {a : Option Addr} {T : List (List UInt8)} (h : Sl w B a (stCells T)) (h0 : 0 < T.length) :
    ∃ b off, a = some ⟨b, off, none⟩ ∧ b < B ∧ ∀ j, j < T.length → w.cell? ⟨b, off + j, none⟩ = some (.string (str (T.getD j []))) := by
  rcases h with h | ⟨b, off, e, hlt, hc⟩
  · have := congrArg List.length h
    unfold stCells at this
    rw [List.length_map, List.length_nil] at this
    omega
  · exact ⟨b, off, e, hlt, fun j hj => hc _ _ (stCells_at T j hj)⟩
/-- Mail at block g: so many sent, those that are there. -/
def MA (w : World) (g : Nat) (s : Int) (L : List Pk) (a : Option Addr) (c : Nat) : Prop :=
  Whole w g 56 #[.int .i64 s, .slice a L.length c] ∧ w.ownsRow (g + 1) 37 4 (.slice a L.length c) L.length (pkCells L)
/-- All old blocks but the mail's own stay. -/
def Mv (w w' : World) (g : Nat) (a : Option Addr) : Prop := w.heap.size ≤ w'.heap.size ∧ ∀ k, k < w.heap.size → k ≠ g → (∀ x, a = some x → x.block ≠ k) → w'.heap[k]? = w.heap[k]?
/-- Where the row lies now: where it lay, or in a new block. -/
def Ab (w : World) (a a' : Option Addr) : Prop := ∀ x', a' = some x' → (∃ x, a = some x ∧ x.block = x'.block) ∨ w.heap.size ≤ x'.block
theorem Ab.refl (w : World) (a : Option Addr) : Ab w a a := fun x' h => .inl ⟨x', h, rfl⟩
theorem Ab.trans {w w1 : World} {a a1 a2 : Option Addr} (h : Ab w a a1) (h1 : Ab w1 a1 a2) (hz : w.heap.size ≤ w1.heap.size) : Ab w a a2 := fun x' hx => by
  rcases h1 x' hx with ⟨x, e, h2⟩ | h2
  · rcases h x e with ⟨y, e2, h3⟩ | h3
    · exact .inl ⟨y, e2, h3.trans h2⟩
    · exact .inr (by omega)
  · exact .inr (by omega)
theorem Mv.below {w w' : World} {g : Nat} {a : Option Addr} (h : Below w.heap.size w w') : Mv w w' g a := ⟨h.size, fun k hk _ _ => h.block k hk⟩
theorem Mv.trans {w w1 w2 : World} {g : Nat} {a a1 : Option Addr} (h : Mv w w1 g a) (h1 : Mv w1 w2 g a1) (ha : Ab w a a1) : Mv w w2 g a :=
  ⟨Nat.le_trans h.1 h1.1, fun k hk hg hx => (h1.2 k (Nat.lt_of_lt_of_le hk h.1) hg (fun x' e => by
    rcases ha x' e with ⟨x, e2, h3⟩ | h3
    · rw [← h3]; exact hx x e2
    · omega)).trans (h.2 k hk hg hx)⟩
theorem MA.keep {w w' : World} {g : Nat} {s : Int} {L : List Pk} {a : Option Addr} {c : Nat} (h : MA w g s L a c) (hb : Below w.heap.size w w') : MA w' g s L a c := ⟨h.1.keep hb, own_keep h.2 hb⟩
theorem MA.two {w : World} {g : Nat} {s : Int} {L : List Pk} {a : Option Addr} {c : Nat} (h : MA w g s L a c) : w.cell? ⟨g, 0, none⟩ = some (.int .i64 s) ∧ w.cell? ⟨g, 1, none⟩ = some (.slice a L.length c) ∧ w.frozen? ⟨g, 0, none⟩ = false ∧ w.frozen? ⟨g, 1, none⟩ = false ∧ g < w.heap.size :=
  ⟨h.1.cell 0, h.1.cell 1, h.1.frozen 0, h.1.frozen 1, h.1.lt⟩
def PlaceB (n : Int) : Prop := 0 ≤ n ∧ n ≤ 8
theorem place_walk (n : Int) (w : World) (d : Bool) (hd : (PlaceB n ∧ d = true) ∨ (¬ PlaceB n ∧ d = false)) : Calls Try.prog 22 #[.int .i64 n] w fun e w' => e = .returned (.bool d) ∧ Below w.heap.size w w' := by
  unfold PlaceB at hd
  rcases (show n < 0 ∨ (0 ≤ n ∧ n ≤ 8) ∨ (0 ≤ n ∧ 8 < n) by omega) with h1 | ⟨h1, h2⟩ | ⟨h1, h2⟩
  · obtain rfl : d = false := by rcases hd with h | h; omega; exact h.2
    have h3 : ¬ 0 ≤ n := by omega
    clear hd h1
    go_enter Try.func22, Try.ntmps22
    go_wp2_with fail
    go_ret
    exact ⟨rfl, Below.refl _ _⟩
  · obtain rfl : d = true := by rcases hd with h | h; exact h.2; omega
    clear hd
    go_enter Try.func22, Try.ntmps22
    go_wp2_with fail
    go_ret
    exact ⟨rfl, Below.refl _ _⟩
  · obtain rfl : d = false := by rcases hd with h | h; omega; exact h.2
    have h3 : ¬ n ≤ 8 := by omega
    clear hd h2
    go_enter Try.func22, Try.ntmps22
    go_wp2_with fail
    go_ret
    exact ⟨rfl, Below.refl _ _⟩
theorem long_walk (t : List UInt8) (w : World) (d : Bool) (hd : decide (131072 < ((str t).size : Int)) = d) : Calls Try.prog 21 #[.string (str t)] w fun e w' => e = .returned (.bool d) ∧ Below w.heap.size w w' := by
  go_enter Try.func21, Try.ntmps21
  go_wp2_with fail
  go_ret
  exact ⟨by first | rfl | (rw [← hd]; rfl) | (rw [hd]), Below.refl _ _⟩
def LongB (T : List (List UInt8)) : Prop := ∃ t ∈ T, 131072 < t.length
theorem long_at {T : List (List UInt8)} {k : Nat} (hk : k < T.length) (h : 131072 < (T.getD k []).length) : LongB T := ⟨T.getD k [], getD_mem T [] k hk, h⟩
theorem long_not {T : List (List UInt8)} (h : ∀ p, p < T.length → ¬ 131072 < (T.getD p []).length) : ¬ LongB T := fun ⟨t, ht, hl⟩ => by
  obtain ⟨i, hi, rfl⟩ := List.mem_iff_getElem.1 ht
  have := h i hi
  rw [show T.getD i [] = T[i] from by simp [List.getD, hi]] at this
  exact this hl
set_option maxRecDepth 100000 in
set_option maxHeartbeats 4000000 in
theorem midx_walk (T : List (List UInt8)) (N : Nat) (a : Option Addr) (c B : Nat) (w : World) (hN : T.length = N) (hNm : N ≤ 100000) (h : Sl w B a (stCells T)) (hB : B ≤ w.heap.size) :
    Calls Try.prog 27 #[.slice a N c, .func (.func 21) #[] #[]] w fun e w' => ((∃ k : Nat, LongB T ∧ e = .returned (.int .i64 k)) ∨ (¬ LongB T ∧ e = .returned (.int .i64 (-1)))) ∧ Below w.heap.size w w' := by
  have HNe := Lib.hid hN
  clear hN
  go_enter Try.func27, Try.ntmps27
  go_wp2_with fail
  go_loopw [8] (fun I wr => ∃ k : Nat, k ≤ N ∧ I = .int .i64 k ∧ Hid (∀ p, p < k → ¬ 131072 < (T.getD p []).length) ∧ Below w.heap.size w wr) (fun I _ => N - (intOf I).toNat)
  case atStart => exact ⟨0, by omega, rfl, Lib.hid (fun p hp => by omega), Below.refl _ _⟩
  case round =>
    obtain ⟨k, hk, rfl, HL, hbw⟩ := hrel
    by_cases hlt : k < N
    · have hil : k < T.length := by rw [HNe.out]; exact hlt
      obtain ⟨b1, o1, rfl, hb1, hc⟩ := (h.below hbw hB).st (by omega)
      have r0 := hc k hil
      have hz1 : b1 < wr.heap.size := by have := hbw.size; omega
      obtain ⟨t, ht⟩ : ∃ t, T.getD k [] = t := ⟨_, rfl⟩
      rw [ht] at r0
      have HT := Lib.hid ht
      have hsz := str_size t
      by_cases he : 131072 < t.length
      · have HF := Lib.hid (long_walk t wr true (decide_eq_true (by rw [hsz]; omega)))
        have HB := Lib.hid (long_at hil (by rw [HT.out]; exact he))
        clear hc he ht hsz
        go_wp2_with fail
        refine HF.out.mono ?_
        rintro e w5 ⟨rfl, g5⟩
        have b5 := hbw.trans (g5.mono hbw.size)
        go_wp2_with fail
        go_ret
        exact ⟨.inl ⟨k, HB.out, rfl⟩, b5⟩
      · have HF := Lib.hid (long_walk t wr false (decide_eq_false (by rw [hsz]; omega)))
        have HL2 := Lib.hid (show ∀ p, p < k + 1 → ¬ 131072 < (T.getD p []).length from fun p hp => by
          rcases Nat.lt_or_ge p k with h1 | h1
          · exact HL.out p h1
          · rw [show p = k from by omega, HT.out]; exact he)
        clear hc he ht hsz
        go_wp2_with fail
        refine HF.out.mono ?_
        rintro e w5 ⟨rfl, g5⟩
        have b5 := hbw.trans (g5.mono hbw.size)
        go_wp2_with fail
        go_roundw
        case rel => exact ⟨k + 1, by omega, by go_num, HL2, b5⟩
        case measure => simp [intOf]; omega
    · obtain rfl : k = N := by omega
      go_wp2_with fail
      go_ret
      exact ⟨.inr ⟨long_not (fun p hp => HL.out p (by rw [← HNe.out]; exact hp)), rfl⟩, hbw⟩
theorem mcont_walk (T : List (List UInt8)) (N : Nat) (a : Option Addr) (c B : Nat) (w : World) (d : Bool) (hN : T.length = N) (hNm : N ≤ 100000) (hd : (LongB T ∧ d = true) ∨ (¬ LongB T ∧ d = false)) (h : Sl w B a (stCells T)) (hB : B ≤ w.heap.size) :
    Calls Try.prog 23 #[.slice a N c, .func (.func 21) #[] #[]] w fun e w' => e = .returned (.bool d) ∧ Below w.heap.size w w' := by
  have HI := Lib.hid (midx_walk T N a c B w hN hNm h hB)
  have HD := Lib.hid hd
  clear hd hN
  go_enter Try.func23, Try.ntmps23
  go_wp2_with fail
  refine HI.out.mono ?_
  rintro e w1 ⟨⟨k, hl, rfl⟩ | ⟨hl, rfl⟩, g1⟩
  · obtain rfl : d = true := by rcases HD.out with h | h; exact h.2; exact absurd hl h.1
    go_wp2_with fail
    go_ret
    exact ⟨by first | rfl | simp, g1⟩
  · obtain rfl : d = false := by rcases HD.out with h | h; exact absurd h.1 hl; exact h.2
    go_wp2_with fail
    go_ret
    exact ⟨by first | rfl | simp, g1⟩
theorem mnew_walk (w : World) : Calls Try.prog 8 #[] w fun e w' => e = .returned (.pointer (some ⟨w.heap.size, 0, none⟩)) ∧ MA w' w.heap.size 0 [] none 0 ∧ Below w.heap.size w w' := by
  have hal := balloc w (.cells #[.int .i64 0, .slice none 0 0] 56)
  have hW := Whole.new w 56 #[.int .i64 0, .slice none 0 0]
  go_enter Try.func8, Try.ntmps8
  go_wp2_with fail
  go_ret
  exact ⟨rfl, ⟨hW, World.ownsRow_nil _ _ _ _⟩, hal⟩
theorem mlen_walk (g : Nat) (s : Int) (L : List Pk) (a : Option Addr) (c : Nat) (w : World) (h : MA w g s L a c) : Calls Try.prog 16 #[.pointer (some ⟨g, 0, none⟩)] w fun e w' => e = .returned (.int .i64 L.length) ∧ Below w.heap.size w w' := by
  obtain ⟨m0, m1, f0, f1, hg⟩ := h.two
  clear h
  go_enter Try.func16, Try.ntmps16
  go_wp2_with fail
  go_ret
  exact ⟨rfl, Below.refl _ _⟩
theorem mlen_nil (w : World) : Calls Try.prog 16 #[.pointer none] w fun e w' => e = .returned (.int .i64 0) ∧ Below w.heap.size w w' := by
  go_enter Try.func16, Try.ntmps16
  go_wp2_with fail
  go_ret
  exact ⟨rfl, Below.refl _ _⟩
theorem mlist_nil (w : World) : Calls Try.prog 18 #[.pointer none] w fun e w' => e = .returned (.slice none 0 0) ∧ Below w.heap.size w w' := by
  go_enter Try.func18, Try.ntmps18
  go_wp2_with fail
  go_ret
  exact ⟨rfl, Below.refl _ _⟩
theorem mhas_nil (p : Int) (w : World) : Calls Try.prog 24 #[.pointer none, .int .i64 p] w fun e w' => e = .returned (.bool false) ∧ Below w.heap.size w w' := by
  go_enter Try.func24, Try.ntmps24
  go_wp2_with fail
  go_ret
  exact ⟨rfl, Below.refl _ _⟩
set_option maxRecDepth 100000 in
theorem mhas_walk (g : Nat) (s : Int) (L : List Pk) (a : Option Addr) (c : Nat) (p : Int) (w : World) (d : Bool) (hd : ((0 ≤ p ∧ p < (L.length : Int)) ∧ d = true) ∨ (¬ (0 ≤ p ∧ p < (L.length : Int)) ∧ d = false)) (h : MA w g s L a c) :
    Calls Try.prog 24 #[.pointer (some ⟨g, 0, none⟩), .int .i64 p] w fun e w' => e = .returned (.bool d) ∧ Below w.heap.size w w' := by
  obtain ⟨m0, m1, f0, f1, hg⟩ := h.two
  clear h
  rcases (show p < 0 ∨ (0 ≤ p ∧ p < (L.length : Int)) ∨ (0 ≤ p ∧ ¬ p < (L.length : Int)) by omega) with h1 | ⟨h1, h2⟩ | ⟨h1, h2⟩
  · obtain rfl : d = false := by rcases hd with h | h; omega; exact h.2
    have h3 : ¬ 0 ≤ p := by omega
    clear hd h1
    go_enter Try.func24, Try.ntmps24
    go_wp2_with fail
    go_ret
    exact ⟨rfl, Below.refl _ _⟩
  · obtain rfl : d = true := by rcases hd with h | h; exact h.2; omega
    clear hd
    go_enter Try.func24, Try.ntmps24
    go_wp2_with fail
    go_ret
    exact ⟨rfl, Below.refl _ _⟩
  · obtain rfl : d = false := by rcases hd with h | h; omega; exact h.2
    clear hd
    go_enter Try.func24, Try.ntmps24
    go_wp2_with fail
    go_ret
    exact ⟨rfl, Below.refl _ _⟩
end Go.Proofs.Ytkechaniaidieaa
