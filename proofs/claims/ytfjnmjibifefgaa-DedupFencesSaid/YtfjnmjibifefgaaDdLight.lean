/- The walk of headgatelaw06.Light alone. -/
import Derived.Test.YtfjnmjibifefgaaBat
import Derived.Test.YtfjnmjibifefgaaKit
import Derived.Test.YtfjnmjibifefgaaWhole
import Derived.IntWalk
import Derived.Lib.Hide
namespace Go.Proofs.Ytfjnmjibifefgaa
open Go.RowKit Vm Bm
set_option linter.unusedVariables false

/-- Light. -/
def LightB (b : Bat) : Prop := b.l.length ≤ 70 ∧ ∀ r ∈ b.l, r.x.length ≤ 1000
set_option maxRecDepth 100000 in
set_option maxHeartbeats 2000000 in
theorem light_walk (b : Bat) (N : Nat) (a : Option Addr) (c B : Nat) (w : World) (d : Bool) (hN : b.l.length = N) (hd : d = true ↔ LightB b) (hl : Sl w B a (recCells b.l)) (hB : B ≤ w.heap.size) :
    Calls Try.prog 14 #[.agg #[.int .i64 b.kind, .int .i64 b.pid, .int .i64 b.epoch, .int .i64 b.seq, .slice a N c]] w fun e w' => e = .returned (.bool d) ∧ Below w.heap.size w w' := by
  have HF := Lib.hid (show ¬ LightB b → d = false from fun h => by rw [Bool.eq_false_iff, Ne, hd]; exact h)
  have HT := Lib.hid (show LightB b → d = true from fun h => hd.2 h)
  clear hd
  obtain ⟨k, p, e, q, l⟩ := b
  unfold LightB at HF HT
  simp only at *
  have R0 := Whole.new w 25 #[.int .i64 k, .int .i64 p, .int .i64 e, .int .i64 q, .slice a N c]
  have B0 : Below w.heap.size w (w.alloc (.cells #[.int .i64 k, .int .i64 p, .int .i64 e, .int .i64 q, .slice a N c] 25)) := (Below.refl _ _).alloc (Nat.le_refl _) _
  have L0 := hl.below B0 hB
  by_cases hn : 70 < (N : Int)
  · obtain rfl := HF.out (fun h => by have := h.1; omega)
    go_enter Try.func14, Try.ntmps14
    go_wp2_with fail
    go_ret
    exact ⟨rfl, B0⟩
  · go_enter Try.func14, Try.ntmps14
    go_wp2_with fail
    obtain ⟨W, hW⟩ : ∃ W, W = w.alloc (.cells #[.int .i64 k, .int .i64 p, .int .i64 e, .int .i64 q, .slice a N c] 25) := ⟨_, rfl⟩
    rw [← hW] at R0 B0 L0
    rw [← hW]
    clear hW
    go_loop [3] (fun i => ∃ n : Nat, n ≤ N ∧ i = .int .i64 n ∧ ∀ r ∈ l.take n, r.x.length ≤ 1000) (fun i => N - (intOf i).toNat)
    case atStart => exact ⟨0, by omega, rfl, by simp⟩
    case round =>
      obtain ⟨n, hnl, rfl, hm⟩ := hrel
      have HM := Lib.hid hm
      have c4 := R0.cell 4
      have hg := R0.lt
      simp only [show (#[Value.int .i64 k, .int .i64 p, .int .i64 e, .int .i64 q, .slice a N c] : Array Value)[4]? = some (.slice a N c) from rfl] at c4
      clear hm
      by_cases hlt : n < N
      · have hll : n < l.length := by omega
        obtain ⟨b1, o1, rfl, hb1, r0, r1, r2⟩ := L0.rec hll
        have hts := Lib.hid (List.take_succ_eq_append_getElem hll)
        have hmem := Lib.hid (List.getElem_mem hll)
        generalize l[n] = r at *
        by_cases hx : 1000 < ((str r.x).size : Int)
        · obtain rfl := HF.out (fun h => by have := h.2 r hmem.out; rw [str_size] at hx; omega)
          go_wp2_with fail
          go_ret
          exact ⟨rfl, B0⟩
        · have hx2 := Lib.hid (show r.x.length ≤ 1000 by rw [str_size] at hx; omega)
          go_wp2_with fail
          go_round
          case rel => exact ⟨n + 1, by omega, by go_num, by rw [hts.out]; intro y hy; rcases List.mem_append.1 hy with hy | hy; exact HM.out y hy; rw [List.mem_singleton.1 hy]; exact hx2.out⟩
          case measure => simp [intOf]; omega
      · obtain rfl := HT.out ⟨by omega, fun r hr => HM.out r (by rw [List.take_of_length_le (by omega)]; exact hr)⟩
        go_wp2_with fail
        go_ret
        exact ⟨rfl, B0⟩
end Go.Proofs.Ytfjnmjibifefgaa
