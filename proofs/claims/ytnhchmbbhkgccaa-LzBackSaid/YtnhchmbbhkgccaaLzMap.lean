/- A map by four bytes, each value of which is a place ahead of i. -/
import Derived.Test.YtnhchmbbhkgccaaLzPeriod
import Derived.Maps.Own
import Derived.DeepKeys4
namespace Go.Proofs.Ytnhchmbbhkgccaa
open Go.RowKit Vm Lz
set_option linter.unusedVariables false
set_option linter.unusedSimpArgs false

def bdR (i : Nat) (v : Value) : Option (DataW Unit × List MemPlace) :=
  match v with
  | .int .i64 n => if 0 ≤ n ∧ n < (i : Int) then some (.lit (.int .i64 n), []) else none
  | _ => none
theorem bdR_some {i k : Nat} (h : k < i) : bdR i (.int .i64 (k : Int)) = some (.lit (.int .i64 (k : Int)), []) := by
  unfold bdR; simp; omega
theorem bdR_inv {i : Nat} {v : Value} {y : DataW Unit × List MemPlace} (h : bdR i v = some y) : ∃ k : Nat, k < i ∧ v = .int .i64 (k : Int) := by
  unfold bdR at h
  split at h
  · next n =>
    by_cases h0 : 0 ≤ n ∧ n < (i : Int)
    · exact ⟨n.toNat, by omega, by rw [show ((n.toNat : Nat) : Int) = n by omega]⟩
    · rw [if_neg h0] at h; cases h
  · cases h
theorem bdR_mono {i j : Nat} (hij : i ≤ j) {v : Value} {y : DataW Unit × List MemPlace} (h : bdR i v = some y) : bdR j v = some y := by
  obtain ⟨k, hk, rfl⟩ := bdR_inv h
  rw [bdR_some hk] at h
  rw [bdR_some (Nat.lt_of_lt_of_le hk hij)]; exact h
theorem laidOut32 : laidOutB Try.prog = true := by kernel_rfl
theorem law4 : Maps.Keyed Try.prog 48 := Maps.Keyed.of_law (deep_law_laid laidOut32 (m := 3) (by omega) (of_decide_eq_true (by kernel_rfl)) (by kernel_rfl) (by kernel_rfl))
def kb (x : UInt8) : Value := .int .u8 (x.toNat : Int)
def key4 (x0 x1 x2 x3 : UInt8) : Value := .agg #[kb x0, kb x1, kb x2, kb x3]
theorem kb_wf (x : UInt8) : (Lit.int .u8 (x.toNat : Int)).wf = true := by
  have := x.toNat_lt
  simp only [Lit.wf, Bool.and_eq_true, decide_eq_true_eq]
  exact ⟨by show (0 : Int) ≤ _; omega, by show _ ≤ (255 : Int); omega⟩
theorem key4_some (x0 x1 x2 x3 : UInt8) : ∃ kl, keyOf Try.prog 48 (key4 x0 x1 x2 x3) = some kl := by
  have h1 : Try.prog.keyType 48 = true := by kernel_rfl
  have h2 : (key4 x0 x1 x2 x3).formed Try.prog 48 = true := by kernel_rfl
  have h3 : Try.prog.cellsOf 5 = 1 := by kernel_rfl
  have h4 : Try.prog.cellsOf 48 = 4 := by kernel_rfl
  obtain ⟨d, hd⟩ : ∃ d, Try.prog.types.size = d + 1 := ⟨Try.prog.types.size - 1, by kernel_rfl⟩
  unfold keyOf
  rw [Try.underlying48, h1, h2, hd]
  have e : Try.prog.keyLits (d + 1 + 1) 48 (key4 x0 x1 x2 x3).cells.toList = some ([[Lit.int .u8 (x0.toNat : Int)], [Lit.int .u8 (x1.toNat : Int)], [Lit.int .u8 (x2.toNat : Int)], [Lit.int .u8 (x3.toNat : Int)]].flatten) := by
    simp [Program.keyLits, Try.underlying48, Try.underlying5, key4, kb, Value.cells, h3, h4, List.range_succ, kb_wf]
  rw [e]
  exact ⟨_, rfl⟩
def MapI (w : World) (r i n : Nat) : Prop := ∃ D, w.ownsMap Try.prog 48 (bdR i) r n D
theorem zero_int (w : World) : (zeroValue 3).run Try.prog w = .ok (.int .i64 0) w := by kernel_rfl
theorem MapI.look {w : World} {r i n : Nat} (h : MapI w r i n) (x0 x1 x2 x3 : UInt8) :
    ∃ (v : Nat) (f : Bool), (Instr.lookup 47 (.map (some r)) (key4 x0 x1 x2 x3) true).run Try.prog w = .ok (.tuple #[.int .i64 (v : Int), .bool f]) w ∧ (f = true → v < i) ∧ (f = false → v = 0) := by
  obtain ⟨D, es, clock, hb, F, _, rfl⟩ := h
  obtain ⟨kl, hk⟩ := key4_some x0 x1 x2 x3
  rcases Maps.fit_look true law4 Try.underlying47 (zero_int w) hb F hk with ⟨hrun, _, _⟩ | ⟨e0, y, _, _, hrun, hR, _, _⟩
  · exact ⟨0, false, hrun, fun h => (by cases h), fun _ => rfl⟩
  · obtain ⟨k, hk, he⟩ := bdR_inv hR
    rw [he] at hrun
    exact ⟨k, true, hrun, fun _ => hk, fun h => (by cases h)⟩
theorem MapI.mono {w : World} {r i j n : Nat} (h : MapI w r i n) (hij : i ≤ j) : MapI w r j n := by
  obtain ⟨D, es, clock, hb, F, hs, rfl⟩ := h
  obtain ⟨F2, _, _⟩ := F.stay (R' := bdR j) (fun x _ z hz => bdR_mono hij hz)
  exact ⟨_, es, clock, hb, F2, hs, rfl⟩
theorem MapI.kept {w w' : World} {row : Option Nat} {r i n : Nat} (h : MapI w r i n) (hg : w.grownBy w' row) (hne : some r ≠ row) : MapI w' r i n := by
  obtain ⟨D, h⟩ := h
  exact ⟨D, h.kept hg hne⟩
theorem MapI.below {w w' : World} {r i n : Nat} (h : MapI w r i n) (hb : Below w.heap.size w w') : MapI w' r i n := by
  obtain ⟨D, h⟩ := h
  have hlt := h.lt
  obtain ⟨es, clock, hbk, F, hs, hD⟩ := h
  exact ⟨D, es, clock, (hb.block r hlt).trans hbk, F, hs, hD⟩
end Go.Proofs.Ytnhchmbbhkgccaa
