/- The walk of dedup.insert. -/
import Derived.Test.YtfjnmjibifefgaaDdIdx
import Derived.Test.YtfjnmjibifefgaaPrIns
import Derived.Test.YtfjnmjibifefgaaApp
import Derived.Deep.Cut
namespace Go.Proofs.Ytfjnmjibifefgaa
open Go.RowKit Vm
set_option linter.unusedVariables false
set_option linter.unusedSimpArgs false

theorem Whole.fiveP {w : World} {g : Nat} {t : TypeId} {a b c d e : Value} (h : Whole w g t #[a, b, c, d, e]) :
    (w.cell? ⟨g, 0, none⟩ = some a ∧ w.cell? ⟨g, 1, none⟩ = some b ∧ w.cell? ⟨g, 2, none⟩ = some c ∧ w.cell? ⟨g, 3, none⟩ = some d ∧ w.cell? ⟨g, 4, none⟩ = some e) ∧ g < w.heap.size :=
  ⟨⟨h.cell 0, h.cell 1, h.cell 2, h.cell 3, h.cell 4⟩, h.lt⟩
/-- A row, put ahead of the first one of a greater producer. -/
def InsIs (l : List Pr) (x : Pr) (D : List Pr) : Prop :=
  (∃ k : Nat, k < l.length ∧ (∀ p, p < k → prKey (l.getD p pr0) ≤ x.p) ∧ x.p < prKey (l.getD k pr0) ∧ D = ins_pr l k x) ∨ ((∀ p, p < l.length → prKey (l.getD p pr0) ≤ x.p) ∧ D = l ++ [x])
theorem insIs_ex (l : List Pr) (x : Pr) : ∃ D, InsIs l x D := by
  by_cases h : ∃ k : Nat, k < l.length ∧ (∀ p, p < k → prKey (l.getD p pr0) ≤ x.p) ∧ x.p < prKey (l.getD k pr0)
  · obtain ⟨k, h1, h2, h3⟩ := h
    exact ⟨_, .inl ⟨k, h1, h2, h3, rfl⟩⟩
  · refine ⟨_, .inr ⟨fun p => ?_, rfl⟩⟩
    induction p using Nat.strongRecOn with
    | _ p ih =>
      intro hp
      apply Classical.byContradiction
      intro hc
      exact h ⟨p, hp, fun q hq => ih q hq (by omega), by omega⟩
theorem insIs_at {l : List Pr} {x : Pr} {D : List Pr} (h : InsIs l x D) {k : Nat} (hk : k < l.length) (h1 : ∀ p, p < k → prKey (l.getD p pr0) ≤ x.p) (h2 : x.p < prKey (l.getD k pr0)) : D = ins_pr l k x := by
  rcases h with ⟨j, hj, h3, h4, rfl⟩ | ⟨h3, _⟩
  · rw [show j = k from ?_]
    rcases Nat.lt_trichotomy j k with h5 | h5 | h5
    · have := h1 j h5; omega
    · exact h5
    · have := h3 k h5; omega
  · have := h3 k hk; omega
theorem insIs_none {l : List Pr} {x : Pr} {D : List Pr} (h : InsIs l x D) (h1 : ∀ p, p < l.length → prKey (l.getD p pr0) ≤ x.p) : D = l ++ [x] := by
  rcases h with ⟨j, hj, h3, h4, rfl⟩ | ⟨_, h3⟩
  · have := h1 j hj; omega
  · exact h3
theorem ins_pr_len (l : List Pr) (k : Nat) (x : Pr) (hk : k ≤ l.length) : (ins_pr l k x).length = l.length + 1 := by unfold ins_pr; simp; omega
/-- A row of the call's own, handed back. -/
def OwnPost (w : World) (base : Nat) (D : List Pr) (e : Ending) (w' : World) : Prop :=
  ∃ a' c', e = .returned (.slice a' D.length c') ∧ w'.ownsRow base 44 5 (.slice a' D.length c') D.length (prCells D) ∧ Below base w w'
theorem own_end {w w5 : World} {D : List Pr} {base n : Nat} {xs : List Value} {a : Option Addr} {c : Nat} (ho : w5.ownsRow base 44 5 (.slice a n c) n xs) (he : xs = prCells D) (hn : n = D.length) (hb : Below base w w5) : OwnPost w base D (.returned (.slice a n c)) w5 := by
  subst he hn
  exact ⟨a, c, rfl, ho, hb⟩
set_option maxRecDepth 100000 in
set_option maxHeartbeats 4000000 in
theorem dins_walk (l : List Pr) (N : Nat) (a : Option Addr) (c base : Nat) (x : Pr) (w : World) (D : List Pr) (hN : l.length = N) (hNm : N ≤ 1000) (hD : InsIs l x D) (hown : w.ownsRow base 44 5 (.slice a N c) N (prCells l)) (hbase : base ≤ w.heap.size) :
    Calls Try.prog 44 #[.slice a N c, .agg #[.int .i64 x.p, .int .i64 x.e, .int .i64 x.s, .int .i64 x.n, .int .i64 x.b]] w (OwnPost w base D) := by
  obtain ⟨i0, hi, hz0, hz1, hz2⟩ := info_parts info_pr
  have hal := balloc w (.cells #[.int .i64 x.p, .int .i64 x.e, .int .i64 x.s, .int .i64 x.n, .int .i64 x.b] 44)
  have hX := Whole.new w 44 #[.int .i64 x.p, .int .i64 x.e, .int .i64 x.s, .int .i64 x.n, .int .i64 x.b]
  have hown1 := hown.alloc (.cells #[.int .i64 x.p, .int .i64 x.e, .int .i64 x.s, .int .i64 x.n, .int .i64 x.b] 44)
  have sl1 := (ownN_sl hown).below hal (Nat.le_refl _)
  have HI := Lib.hid (didxi_walk l N a c w.heap.size w.heap.size x.p (w.alloc (.cells #[.int .i64 x.p, .int .i64 x.e, .int .i64 x.s, .int .i64 x.n, .int .i64 x.b] 44)) hN (by omega) (hX.cell 0) sl1 hal.size)
  unfold IxiPost at HI
  have HNe := Lib.hid hN
  have HD := Lib.hid hD
  have HO1 := Lib.hid hown1
  clear hN hD hown1 hown sl1
  go_enter Try.func44, Try.ntmps44
  go_wp2_with fail
  refine HI.out.mono ?_
  rintro e w1 (⟨k, hk, HL, HG, rfl, g1⟩ | ⟨HL, rfl, g1⟩)
  · have HDe := Lib.hid (insIs_at HD.out (by rw [HNe.out]; exact hk) HL.out HG.out)
    have own1 := own_keep HO1.out g1
    have X1 := hX.keep g1
    obtain ⟨⟨x0, x1, x2, x3, x4⟩, xl⟩ := X1.fiveP
    have b1 := gtrans hal g1
    have hz1' := b1.size
    have halv := balloc w1 (.cells #[.int .i64 x.p, .int .i64 x.e, .int .i64 x.s, .int .i64 x.n, .int .i64 x.b] 44)
    have hv := heap_alloc_new w1 (.cells #[.int .i64 x.p, .int .i64 x.e, .int .i64 x.s, .int .i64 x.n, .int .i64 x.b] 44)
    have hne : (Value.slice a N c).ownBlock ≠ some w1.heap.size := fun h => by have := (own1.lt _ h).2; omega
    have HI2 := Lib.hid (insert_pr l N a c base k x _ w1.heap.size HNe.out (by omega) (by omega) (own_keep own1 halv) hv hne (Nat.le_trans (by omega) halv.size))
    have b4 := b1.trans (halv.mono (by omega))
    have hz4 := halv.size
    have hk0 : 0 ≤ (k : Int) := by omega
    clear HI HO1 own1 hne hv halv hX X1 hal g1
    unfold IPost_pr at HI2
    go_wp2_with fail
    refine HI2.out.mono ?_
    rintro e w4 ⟨a4, c4, rfl, own4, g4⟩
    go_wp2_with fail
    go_ret
    have hl := HNe.out
    exact own_end own4 (by rw [HDe.out]) (by rw [HDe.out, ins_pr_len _ _ _ (by omega), hl]) ((b4.mono hbase).trans g4)
  · have HDe := Lib.hid (insIs_none HD.out (fun p hp => HL.out p (by rw [← HNe.out]; exact hp)))
    have own1 := own_keep HO1.out g1
    have X1 := hX.keep g1
    obtain ⟨⟨x0, x1, x2, x3, x4⟩, xl⟩ := X1.fiveP
    have b1 := gtrans hal g1
    have hz1' := b1.size
    have HOw := Lib.hid (own1.alloc (.cells #[.int .i64 x.p, .int .i64 x.e, .int .i64 x.s, .int .i64 x.n, .int .i64 x.b] 44))
    have halv := balloc w1 (.cells #[.int .i64 x.p, .int .i64 x.e, .int .i64 x.s, .int .i64 x.n, .int .i64 x.b] 44)
    have HBw := Lib.hid ((b1.trans (halv.mono (by omega))).mono hbase)
    have hz4 := halv.size
    clear HI HO1 own1 halv hX X1 hal g1
    go_wp2_with (at_builtin; refine wp_app rfl _ _ 22 rfl base 44 i0 (.agg #[.int .i64 0, .int .i64 0, .int .i64 0, .int .i64 0, .int .i64 0]) 5 40 Try.underlying22 hi hz0 hz1 hz2 rfl (by decide) _ _ _ rfl HOw.out _ _ _ rfl [.int .i64 x.p, .int .i64 x.e, .int .i64 x.s, .int .i64 x.n, .int .i64 x.b] _ w rfl (sl_fresh _ [.int .i64 x.p, .int .i64 x.e, .int .i64 x.s, .int .i64 x.n, .int .i64 x.b] 44) (fun h => by cases h) (pr_one x) ?cf1 ?cf2 ?cf3 HBw.out ?_)
    case cf1 => unfold maxLen; omega
    case cf2 => omega
    case cf3 => omega
    intro a4 c4 w4 own4 b4
    go_wp2_with fail
    go_ret
    have hl := HNe.out
    exact own_end own4 (by rw [HDe.out, prCells_snoc]) (by rw [HDe.out]; simp [hl]) b4
end Go.Proofs.Ytfjnmjibifefgaa
