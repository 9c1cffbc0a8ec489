/- The walk of headgatelaw07.of at the sizes of the example. -/
import Derived.Test.YtfjnmjibifefgaaBat
import Derived.Test.YtfjnmjibifefgaaKit
import Derived.Test.YtfjnmjibifefgaaRecs
import Derived.Test.YtfjnmjibifefgaaWhole
import Derived.Deep.Cut
import Derived.Handy
namespace Go.Proofs.Ytfjnmjibifefgaa
open Go.RowKit Vm Bm
set_option linter.unusedVariables false
set_option linter.unusedSimpArgs false

def ofB (e s : Int) (n : Nat) : Bat := ⟨1, 1, e, s, List.replicate n ⟨0, 0, []⟩⟩
def OfPost (w : World) (e s : Int) (n : Nat) (x : Ending) (w' : World) : Prop :=
  ∃ g, x = .returned (bv (ofB e s n) (some ⟨g, 0, none⟩) n) ∧ Sl w' w'.heap.size (some ⟨g, 0, none⟩) (recCells (ofB e s n).l) ∧ Below w.heap.size w w'
theorem sl_fresh0 (w : World) (cs : List Value) (t : TypeId) : Sl (w.alloc (.cells cs.toArray t)) (w.alloc (.cells cs.toArray t)).heap.size (some ⟨w.heap.size, 0, none⟩) cs := by
  refine .inr ⟨_, 0, rfl, by simp, fun j u hu => ?_⟩
  rw [World.cell?_alloc_at _ _ _ _ rfl, Nat.zero_add]
  simpa using hu
set_option maxRecDepth 100000 in
set_option maxHeartbeats 2000000 in
theorem of1_walk (e s : Int) (w : World) :
    Calls Try.prog 40 #[.int .i64 e, .int .i64 s, .int .i64 1] w (OfPost w e s 1) := by
  have hmk : ∀ w, (Instr.makeSlice 23 (.int .i64 1) (.int .i64 1)).run Try.prog w = .ok (.slice (some ⟨w.heap.size, 0, none⟩) 1 1) (w.alloc (.cells #[.int .i64 0, .int .i64 0, .string ByteArray.empty] 82)) := fun _ => by kernel_rfl
  have hal := balloc w (.cells #[.int .i64 0, .int .i64 0, .int .i64 0, .int .i64 0, .slice none 0 0] 25)
  have hW := Whole.new w 25 #[.int .i64 0, .int .i64 0, .int .i64 0, .int .i64 0, .slice none 0 0]
  have hz1 : (w.alloc (.cells #[.int .i64 0, .int .i64 0, .int .i64 0, .int .i64 0, .slice none 0 0] 25)).heap.size = w.heap.size + 1 := by simp
  have hal2 := balloc (w.alloc (.cells #[.int .i64 0, .int .i64 0, .int .i64 0, .int .i64 0, .slice none 0 0] 25)) (.cells #[.int .i64 0, .int .i64 0, .string ByteArray.empty] 82)
  have hR := Whole.new (w.alloc (.cells #[.int .i64 0, .int .i64 0, .int .i64 0, .int .i64 0, .slice none 0 0] 25)) 82 #[.int .i64 0, .int .i64 0, .string ByteArray.empty]
  go_enter Try.func40, Try.ntmps40
  go_wp2_with fail
  go_returns
  refine ⟨w.heap.size + 1, rfl, ?_, gtrans (balloc w _) (balloc _ _)⟩
  have h := sl_fresh0 (w.alloc (.cells #[.int .i64 1, .int .i64 1, .int .i64 e, .int .i64 s, .slice (some ⟨w.heap.size + 1, 0, none⟩) 1 1] 25)) [.int .i64 0, .int .i64 0, .string ByteArray.empty] 82
  rw [show (w.alloc (.cells #[.int .i64 1, .int .i64 1, .int .i64 e, .int .i64 s, .slice (some ⟨w.heap.size + 1, 0, none⟩) 1 1] 25)).heap.size = w.heap.size + 1 from by simp] at h
  exact h
set_option maxRecDepth 100000 in
set_option maxHeartbeats 2000000 in
theorem of3_walk (e s : Int) (w : World) :
    Calls Try.prog 40 #[.int .i64 e, .int .i64 s, .int .i64 3] w (OfPost w e s 3) := by
  have hmk : ∀ w, (Instr.makeSlice 23 (.int .i64 3) (.int .i64 3)).run Try.prog w = .ok (.slice (some ⟨w.heap.size, 0, none⟩) 3 3) (w.alloc (.cells #[.int .i64 0, .int .i64 0, .string ByteArray.empty, .int .i64 0, .int .i64 0, .string ByteArray.empty, .int .i64 0, .int .i64 0, .string ByteArray.empty] 82)) := fun _ => by kernel_rfl
  have hal := balloc w (.cells #[.int .i64 0, .int .i64 0, .int .i64 0, .int .i64 0, .slice none 0 0] 25)
  have hW := Whole.new w 25 #[.int .i64 0, .int .i64 0, .int .i64 0, .int .i64 0, .slice none 0 0]
  have hz1 : (w.alloc (.cells #[.int .i64 0, .int .i64 0, .int .i64 0, .int .i64 0, .slice none 0 0] 25)).heap.size = w.heap.size + 1 := by simp
  have hal2 := balloc (w.alloc (.cells #[.int .i64 0, .int .i64 0, .int .i64 0, .int .i64 0, .slice none 0 0] 25)) (.cells #[.int .i64 0, .int .i64 0, .string ByteArray.empty, .int .i64 0, .int .i64 0, .string ByteArray.empty, .int .i64 0, .int .i64 0, .string ByteArray.empty] 82)
  have hR := Whole.new (w.alloc (.cells #[.int .i64 0, .int .i64 0, .int .i64 0, .int .i64 0, .slice none 0 0] 25)) 82 #[.int .i64 0, .int .i64 0, .string ByteArray.empty, .int .i64 0, .int .i64 0, .string ByteArray.empty, .int .i64 0, .int .i64 0, .string ByteArray.empty]
  go_enter Try.func40, Try.ntmps40
  go_wp2_with fail
  go_returns
  refine ⟨w.heap.size + 1, rfl, ?_, gtrans (balloc w _) (balloc _ _)⟩
  have h := sl_fresh0 (w.alloc (.cells #[.int .i64 1, .int .i64 1, .int .i64 e, .int .i64 s, .slice (some ⟨w.heap.size + 1, 0, none⟩) 3 3] 25)) [.int .i64 0, .int .i64 0, .string ByteArray.empty, .int .i64 0, .int .i64 0, .string ByteArray.empty, .int .i64 0, .int .i64 0, .string ByteArray.empty] 82
  rw [show (w.alloc (.cells #[.int .i64 1, .int .i64 1, .int .i64 e, .int .i64 s, .slice (some ⟨w.heap.size + 1, 0, none⟩) 3 3] 25)).heap.size = w.heap.size + 1 from by simp] at h
  exact h
end Go.Proofs.Ytfjnmjibifefgaa
