/- The walks of headgateref06.Same, Len, batch.Len, headgatelaw06.Light. -/
import Derived.Test.YtdeenkpkcibebaaBat
import Derived.Test.YtdeenkpkcibebaaKit
import Derived.IntWalk
import Derived.Lib.Hide
namespace Go.Proofs.Ytdeenkpkcibebaa
open Go.RowKit Vm Bm
set_option linter.unusedVariables false

set_option maxRecDepth 100000 in
set_option maxHeartbeats 2000000 in
theorem same_recs_walk (l : List Rec) (N : Nat) (a1 a2 : Option Addr) (c1 c2 B : Nat) (w : World) (hN : l.length = N) (hlen : N ≤ 100) (h1 : Sl w B a1 (recCells l)) (h2 : Sl w B a2 (recCells l)) (hB : B ≤ w.heap.size) :
    Calls Try.prog 54 #[.slice a1 N c1, .slice a2 N c2] w fun e w' => e = .returned (.bool true) ∧ Below w.heap.size w w' := by
  go_enter Try.func54, Try.ntmps54
  go_wp2_with fail
  go_loopw [5] (fun i wr => ∃ n : Nat, n ≤ N ∧ i = .int .i64 n ∧ Below w.heap.size w wr) (fun i _ => N - (intOf i).toNat)
  case atStart => exact ⟨0, by omega, rfl, Below.refl _ _⟩
  case round =>
    obtain ⟨n, hn, rfl, hb⟩ := hrel
    by_cases hlt : n < N
    · obtain ⟨b1, o1, rfl, hb1, r0, r1, r2⟩ := (h1.below hb hB).rec (show n < l.length by omega)
      obtain ⟨b2, o2, rfl, hb2, s0, s1, s2⟩ := (h2.below hb hB).rec (show n < l.length by omega)
      generalize l[n] = r at *
      obtain ⟨k, t, x⟩ := r
      simp only at r0 r1 r2 s0 s1 s2
      have hq := bytes_eq (str x)
      have z1 : b1 < wr.heap.size := by have := hb.size; omega
      have z2 : b2 < wr.heap.size := by have := hb.size; omega
      clear h1 h2
      go_wp2_with fail
      go_quiet (fail)
      go_wp2_with fail
      go_roundw
      case rel => exact ⟨n + 1, by omega, by go_num, hb.trans (below_drewN _ _ _)⟩
      case measure => simp [intOf]; omega
    · go_wp2_with fail
      go_ret
      exact ⟨rfl, hb⟩

set_option maxRecDepth 100000 in
set_option maxHeartbeats 2000000 in
theorem same_bat_walk (b : Bat) (N : Nat) (a1 a2 : Option Addr) (c1 c2 B : Nat) (w : World) (hN : b.l.length = N) (hlen : N ≤ 100) (h1 : Sl w B a1 (recCells b.l)) (h2 : Sl w B a2 (recCells b.l)) (hB : B ≤ w.heap.size) :
    Calls Try.prog 26 #[.agg #[.int .i64 b.kind, .int .i64 b.pid, .int .i64 b.epoch, .int .i64 b.seq, .slice a1 N c1], .agg #[.int .i64 b.kind, .int .i64 b.pid, .int .i64 b.epoch, .int .i64 b.seq, .slice a2 N c2]] w fun e w' => e = .returned (.bool true) ∧ Below w.heap.size w w' := by
  obtain ⟨k, p, e, q, l⟩ := b
  simp only at *
  have A1 : Below w.heap.size w (w.alloc (.cells #[.int .i64 k, .int .i64 p, .int .i64 e, .int .i64 q, .slice a1 N c1] 24)) := (Below.refl _ _).alloc (Nat.le_refl _) _
  have A2 : Below w.heap.size w ((w.alloc (.cells #[.int .i64 k, .int .i64 p, .int .i64 e, .int .i64 q, .slice a1 N c1] 24)).alloc (.cells #[.int .i64 k, .int .i64 p, .int .i64 e, .int .i64 q, .slice a2 N c2] 24)) := A1.alloc A1.size _
  have L1 := h1.below A2 hB
  have L2 := h2.below A2 hB
  have H := Lib.hid (fun w h1 h2 hB => same_recs_walk l N a1 a2 c1 c2 B w hN hlen h1 h2 hB)
  go_enter Try.func26, Try.ntmps26
  go_wp2_with fail
  refine (H.out _ L1 L2 (Nat.le_trans hB A2.size)).mono ?_
  rintro x w1 ⟨rfl, g1⟩
  go_wp2_with fail
  go_ret
  exact ⟨rfl, A2.trans (g1.mono A2.size)⟩

set_option maxRecDepth 100000 in
set_option maxHeartbeats 1000000 in
theorem blen_walk (b : Bat) (N : Nat) (a : Option Addr) (c : Nat) (w : World) (m : Int) (hN : b.l.length = N) (hm : (N = 0 ∧ m = 1) ∨ (0 < N ∧ m = N)) :
    Calls Try.prog 20 #[.agg #[.int .i64 b.kind, .int .i64 b.pid, .int .i64 b.epoch, .int .i64 b.seq, .slice a N c]] w fun e w' => e = .returned (.int .i64 m) ∧ Below w.heap.size w w' := by
  obtain ⟨k, p, e, q, l⟩ := b
  have A1 : Below w.heap.size w (w.alloc (.cells #[.int .i64 k, .int .i64 p, .int .i64 e, .int .i64 q, .slice a N c] 24)) := (Below.refl _ _).alloc (Nat.le_refl _) _
  rcases hm with ⟨rfl, rfl⟩ | ⟨h0, rfl⟩
  · go_enter Try.func20, Try.ntmps20
    go_wp2_with fail
    go_ret
    exact ⟨rfl, A1⟩
  · by_cases hN1 : N = 1
    · subst hN1
      go_enter Try.func20, Try.ntmps20
      go_wp2_with fail
      go_ret
      exact ⟨rfl, A1⟩
    · have h1 : ¬ ((N : Int) ≤ 1) := by omega
      go_enter Try.func20, Try.ntmps20
      go_wp2_with fail
      go_ret
      exact ⟨rfl, A1⟩
set_option maxRecDepth 100000 in
set_option maxHeartbeats 1000000 in
theorem rblen_walk (b : Bat) (N : Nat) (a : Option Addr) (c : Nat) (w : World) (m : Int) (hN : b.l.length = N) (hm : (N = 0 ∧ m = 1) ∨ (0 < N ∧ m = N)) :
    Calls Try.prog 21 #[.agg #[.int .i64 b.kind, .int .i64 b.pid, .int .i64 b.epoch, .int .i64 b.seq, .slice a N c]] w fun e w' => e = .returned (.int .i64 m) ∧ Below w.heap.size w w' := by
  obtain ⟨k, p, e, q, l⟩ := b
  have A1 : Below w.heap.size w (w.alloc (.cells #[.int .i64 k, .int .i64 p, .int .i64 e, .int .i64 q, .slice a N c] 24)) := (Below.refl _ _).alloc (Nat.le_refl _) _
  rcases hm with ⟨rfl, rfl⟩ | ⟨h0, rfl⟩
  · go_enter Try.func21, Try.ntmps21
    go_wp2_with fail
    go_ret
    exact ⟨rfl, A1⟩
  · have h1 : ¬ N = 0 := by omega
    go_enter Try.func21, Try.ntmps21
    go_wp2_with fail
    go_ret
    exact ⟨rfl, A1⟩

/-- Light. -/
def LightB (b : Bat) : Prop := b.l.length ≤ 70 ∧ ∀ r ∈ b.l, r.x.length ≤ 1000
set_option maxRecDepth 100000 in
set_option maxHeartbeats 2000000 in
theorem light_walk (b : Bat) (N : Nat) (a : Option Addr) (c B : Nat) (w : World) (d : Bool) (hN : b.l.length = N) (hd : d = true ↔ LightB b) (hl : Sl w B a (recCells b.l)) (hB : B ≤ w.heap.size) :
    Calls Try.prog 16 #[.agg #[.int .i64 b.kind, .int .i64 b.pid, .int .i64 b.epoch, .int .i64 b.seq, .slice a N c]] w fun e w' => e = .returned (.bool d) ∧ Below w.heap.size w w' := by
  have HF := Lib.hid (show ¬ LightB b → d = false from fun h => by rw [Bool.eq_false_iff, Ne, hd]; exact h)
  have HT := Lib.hid (show LightB b → d = true from fun h => hd.2 h)
  clear hd
  obtain ⟨k, p, e, q, l⟩ := b
  unfold LightB at HF HT
  simp only at *
  have R0 := Whole.new w 24 #[.int .i64 k, .int .i64 p, .int .i64 e, .int .i64 q, .slice a N c]
  have B0 : Below w.heap.size w (w.alloc (.cells #[.int .i64 k, .int .i64 p, .int .i64 e, .int .i64 q, .slice a N c] 24)) := (Below.refl _ _).alloc (Nat.le_refl _) _
  have L0 := hl.below B0 hB
  by_cases hn : 70 < (N : Int)
  · obtain rfl := HF.out (fun h => by have := h.1; omega)
    go_enter Try.func16, Try.ntmps16
    go_wp2_with fail
    go_ret
    exact ⟨rfl, B0⟩
  · go_enter Try.func16, Try.ntmps16
    go_wp2_with fail
    obtain ⟨W, hW⟩ : ∃ W, W = w.alloc (.cells #[.int .i64 k, .int .i64 p, .int .i64 e, .int .i64 q, .slice a N c] 24) := ⟨_, rfl⟩
    rw [← hW] at R0 B0 L0
    rw [← hW]
    clear hW
    go_loop [3] (fun i => ∃ n : Nat, n ≤ N ∧ i = .int .i64 n ∧ ∀ r ∈ l.take n, r.x.length ≤ 1000) (fun i => N - (intOf i).toNat)
    case atStart => exact ⟨0, by omega, rfl, by simp⟩
    case round =>
      obtain ⟨n, hnl, rfl, hm⟩ := hrel
      have HM := Lib.hid hm
      have c4 := R0.cell 4
      have hg := R0.lt
      simp only [show (#[Value.int .i64 k, .int .i64 p, .int .i64 e, .int .i64 q, .slice a N c] : Array Value)[4]? = some (.slice a N c) from rfl] at c4
      clear hm
      by_cases hlt : n < N
      · have hll : n < l.length := by omega
        obtain ⟨b1, o1, rfl, hb1, r0, r1, r2⟩ := L0.rec hll
        have hts := Lib.hid (List.take_succ_eq_append_getElem hll)
        have hmem := Lib.hid (List.getElem_mem hll)
        generalize l[n] = r at *
        by_cases hx : 1000 < ((str r.x).size : Int)
        · obtain rfl := HF.out (fun h => by have := h.2 r hmem.out; rw [str_size] at hx; omega)
          go_wp2_with fail
          go_ret
          exact ⟨rfl, B0⟩
        · have hx2 := Lib.hid (show r.x.length ≤ 1000 by rw [str_size] at hx; omega)
          go_wp2_with fail
          go_round
          case rel => exact ⟨n + 1, by omega, by go_num, by rw [hts.out]; intro y hy; rcases List.mem_append.1 hy with hy | hy; exact HM.out y hy; rw [List.mem_singleton.1 hy]; exact hx2.out⟩
          case measure => simp [intOf]; omega
      · obtain rfl := HT.out ⟨by omega, fun r hr => HM.out r (by rw [List.take_of_length_le (by omega)]; exact hr)⟩
        go_wp2_with fail
        go_ret
        exact ⟨rfl, B0⟩
end Go.Proofs.Ytdeenkpkcibebaa
