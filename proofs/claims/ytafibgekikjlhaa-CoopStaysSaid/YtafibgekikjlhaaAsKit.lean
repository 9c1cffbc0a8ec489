/- For the laws of layer 9: some, awake, and Range and Sticky whatever the parts. -/
import Derived.Test.YtafibgekikjlhaaAsSticky
import Derived.Test.YtafibgekikjlhaaSame
import Derived.Test.YtafibgekikjlhaaApp
namespace Go.Proofs.Ytafibgekikjlhaa
open Go.RowKit Vm As
set_option linter.unusedVariables false
set_option linter.unusedSimpArgs false

def memL (l : List Int) : List Int := Lib.compact ((posL l).mergeSort fun x y => decide (x ≤ y))
theorem memL_is (l : List Int) : MemIs l (memL l) := clean_is l
def okP (x : Int) : Bool := decide (1 ≤ x) && decide (x ≤ 64)
def errF (x : Int) : Int := if okP x = true then 0 else 1
def rangeF (x : Int) (l : List Int) : List Int := if okP x = true then rangeL x.toNat (memL l) else []
def stickyF (x : Int) (l old : List Int) : List Int := if okP x = true then stickyL x.toNat (memL l) old else []
theorem okP_yes {x : Int} (h : okP x = true) : 1 ≤ x ∧ x ≤ 64 := by simpa [okP] using h
theorem rangeF_len (x : Int) (l : List Int) : (rangeF x l).length ≤ 64 := by
  unfold rangeF
  split
  · next h => have := okP_yes h; rw [rangeL_len]; omega
  · simp
theorem stickyF_len (x : Int) (l old : List Int) : (stickyF x l old).length ≤ 64 := by
  unfold stickyF
  split
  · next h => have := okP_yes h; rw [stickyL_len]; omega
  · simp
/-- A row of its own, or none, and the error. -/
def OutPost (R : List Int) (E : Int) (w : World) (e : Ending) (w' : World) : Prop := ∃ a' c', e = .returned (.tuple #[.slice a' R.length c', .int .i64 E]) ∧ w'.ownsRow w.heap.size 3 1 (.slice a' R.length c') R.length (i64s R) ∧ Sl w' w'.heap.size a' (i64s R) ∧ Below w.heap.size w w'
theorem range_all (x : Int) (l : List Int) (N : Nat) (a : Option Addr) (c : Nat) (w : World) (hN : l.length = N) (hNm : N ≤ 1000) (h : Sl w w.heap.size a (i64s l)) :
    Calls Try.prog 10 #[.int .i64 x, .slice a N c] w (OutPost (rangeF x l) (errF x) w) := by
  by_cases hx : okP x = true
  · obtain ⟨h1, h2⟩ := okP_yes hx
    have hk := range_walk x.toNat l N a c w.heap.size w (by omega) (by omega) hN hNm h (Nat.le_refl _)
    rw [show ((x.toNat : Nat) : Int) = x by omega] at hk
    refine hk.mono ?_
    rintro e w' ⟨m, hm, g, rfl, ho, hb⟩
    have e1 : rangeF x l = rangeL x.toNat m := by unfold rangeF; rw [if_pos hx, memIs_unique (memL_is l) hm]
    have e2 : (rangeF x l).length = x.toNat := by rw [e1, rangeL_len]
    refine ⟨some ⟨g, 0, none⟩, x.toNat, by rw [e2]; unfold errF; rw [if_pos hx], ?_, ?_, hb⟩
    · rw [e2, e1]; exact ho
    · rw [e1]; exact ownN_sl ho
  · have hx' : okP x = false := by simpa using hx
    refine (range_bad x a N c w hx').mono ?_
    rintro e w' ⟨rfl, hb⟩
    have e1 : rangeF x l = [] := by unfold rangeF; rw [if_neg hx]
    refine ⟨none, 0, by rw [e1]; unfold errF; rw [if_neg hx]; rfl, ?_, ?_, hb⟩
    · rw [e1]; exact World.ownsRow_nil _ _ _ _
    · rw [e1]; exact Sl.nil _ _ _
theorem sticky_all (x : Int) (l old : List Int) (N N3 : Nat) (a a3 : Option Addr) (c c3 : Nat) (w : World) (hN : l.length = N) (hNm : N ≤ 1000) (hN3 : old.length = N3) (hN3m : N3 ≤ 1000) (hwl : ∀ x ∈ l, (Lit.int .i64 x).wf = true) (hwo : ∀ x ∈ old, (Lit.int .i64 x).wf = true) (h : Sl w w.heap.size a (i64s l)) (h3 : Sl w w.heap.size a3 (i64s old)) :
    Calls Try.prog 38 #[.int .i64 x, .slice a N c, .slice a3 N3 c3] w (OutPost (stickyF x l old) (errF x) w) := by
  by_cases hx : okP x = true
  · obtain ⟨h1, h2⟩ := okP_yes hx
    have hk := sticky_walk x.toNat l old N N3 a a3 c c3 w.heap.size w (by omega) (by omega) hN hNm hN3 hN3m hwl hwo h h3 (Nat.le_refl _)
    rw [show ((x.toNat : Nat) : Int) = x by omega] at hk
    refine hk.mono ?_
    rintro e w' ⟨m, hm, g, rfl, ho, hb⟩
    have e1 : stickyF x l old = stickyL x.toNat m old := by unfold stickyF; rw [if_pos hx, memIs_unique (memL_is l) hm]
    have e2 : (stickyF x l old).length = x.toNat := by rw [e1, stickyL_len]
    refine ⟨some ⟨g, 0, none⟩, x.toNat, by rw [e2]; unfold errF; rw [if_pos hx], ?_, ?_, hb⟩
    · rw [e2, e1]; exact ho
    · rw [e1]; exact ownN_sl ho
  · have hx' : okP x = false := by simpa using hx
    refine (sticky_bad x a a3 N c N3 c3 w hx').mono ?_
    rintro e w' ⟨rfl, hb⟩
    have e1 : stickyF x l old = [] := by unfold stickyF; rw [if_neg hx]
    refine ⟨none, 0, by rw [e1]; unfold errF; rw [if_neg hx]; rfl, ?_, ?_, hb⟩
    · rw [e1]; exact World.ownsRow_nil _ _ _ _
    · rw [e1]; exact Sl.nil _ _ _
theorem sl_take09 {w : World} {B : Nat} {a : Option Addr} {xs : List Value} (k : Nat) (h : Sl w B a xs) : Sl w B a (xs.take k) := by
  rcases h with h | ⟨b, off, e, hlt, hc⟩
  · exact .inl (by rw [h]; simp)
  · refine .inr ⟨b, off, e, hlt, fun j u hu => ?_⟩
    rw [List.getElem?_take] at hu
    split at hu
    · exact hc j u hu
    · cases hu
theorem row_some {w : World} {a : Option Addr} {len cap : Nat} {zs : List Int} (hr : IsRow .i64 w a len cap zs) :
    ∃ xs : List Int, xs.length = min len 70 ∧ Sl w w.heap.size a (i64s xs) ∧ (∀ x ∈ xs, (Lit.int .i64 x).wf = true) ∧ (len : Int) ≤ 9223372036854775807 ∧ len ≤ cap := by
  have hl := row_len hr
  refine ⟨(zs.take len).take (min len 70), by rw [List.length_take, hl]; omega, ?_, fun x hx => row_wf hr x (List.mem_of_mem_take hx), ?_, ?_⟩
  · have := sl_take09 (min len 70) (Sl.row hr)
    rwa [← List.map_take] at this
  · rcases hr with ⟨_, rfl, _, _⟩ | ⟨x, _, h1, h2, _⟩
    · omega
    · unfold maxLen at h2; omega
  · rcases hr with ⟨_, rfl, rfl, _⟩ | ⟨x, _, h1, h2, _⟩
    · omega
    · exact h1
theorem same_all (L : List Int) (a b : Option Addr) (c d : Nat) (w : World) (hl : L.length ≤ 1000) (ha : Sl w w.heap.size a (i64s L)) (hb : Sl w w.heap.size b (i64s L)) :
    Calls Try.prog 12 #[.slice a L.length c, .slice b L.length d] w fun e w' => e = .returned (.bool true) ∧ Below w.heap.size w w' :=
  (same_at a b L.length L.length c d _ _ L w rfl rfl (by omega) ha hb).mono fun e w' h => ⟨h.1, h.2.below _⟩
theorem m73 : MemIs [7, 3] [3, 7] := ⟨by decide, fun x => by simp; omega⟩
theorem m379 : MemIs [3, 7, 9] [3, 7, 9] := ⟨by decide, fun x => by simp; omega⟩
theorem rangeA : rangeF 5 [7, 3] = [3, 3, 3, 7, 7] := by
  unfold rangeF
  rw [memIs_unique (memL_is [7, 3]) m73]
  decide
theorem stickyA : stickyF 5 [3, 7, 9] [3, 3, 3, 7, 7] = [3, 3, 9, 7, 7] := by
  unfold stickyF
  rw [memIs_unique (memL_is [3, 7, 9]) m379]
  decide
theorem wf_of (l : List Int) (h : l.all (fun x => decide (0 ≤ x) && decide (x ≤ 100)) = true) : ∀ x ∈ l, (Lit.int .i64 x).wf = true := fun x hx => by
  have := List.all_eq_true.1 h x hx
  simp at this
  have h2 := nat_wf (c := x.toNat) (by omega)
  rwa [show ((x.toNat : Nat) : Int) = x by omega] at h2
end Go.Proofs.Ytafibgekikjlhaa
