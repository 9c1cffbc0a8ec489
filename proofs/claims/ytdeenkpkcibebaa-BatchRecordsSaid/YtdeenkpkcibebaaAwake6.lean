/- The walk of headgatelaw06.awake. -/
import Derived.Test.YtdeenkpkcibebaaBatEnc
namespace Go.Proofs.Ytdeenkpkcibebaa
open Go.RowKit Vm Bm
set_option linter.unusedVariables false

def exA : Bat := ⟨3, 1, 2, 0, []⟩
def exB : Bat := ⟨1, 0, 0, 0, [⟨1, 2, [97]⟩]⟩
set_option maxRecDepth 100000 in
theorem exA_may : MayB exA := by decide +kernel
theorem exB_may : MayB exB := by decide +kernel
theorem exA_text : str (batL exA) = ⟨#[6, 2, 4, 0, 0]⟩ := by decide +kernel
theorem exB_text : str (batL exB) = ⟨#[2, 0, 0, 0, 2, 2, 4, 2, 97]⟩ := by decide +kernel

set_option maxRecDepth 100000 in
set_option maxHeartbeats 1000000 in
theorem awake6_walk (w : World) : Calls Try.prog 17 #[] w fun e w' => e = .returned (.bool true) ∧ Below w.heap.size w w' := by
  have H1 := Lib.hid (fun w => benc_yes exA none 0 0 w exA_may (.inl rfl) (Nat.zero_le _))
  rw [exA_text] at H1
  have H2 := Lib.hid (fun a B w hl hB => benc_yes exB a 1 B w exB_may hl hB)
  rw [exB_text] at H2
  have hq1 := bytes_eq ⟨#[6, 2, 4, 0, 0]⟩
  have hq2 := bytes_eq ⟨#[2, 0, 0, 0, 2, 2, 4, 2, 97]⟩
  go_enter Try.func17, Try.ntmps17
  go_wp2_with fail
  refine (H1.out _).mono ?_
  rintro e w1 ⟨rfl, g1⟩
  go_wp2_with fail
  refine (H2.out (some ⟨w1.heap.size, 0, none⟩) _ _ (sl_new w1 #[.int .i64 1, .int .i64 2, .string ⟨#[97]⟩] _) (Nat.le_refl _)).mono ?_
  rintro e w2 ⟨rfl, g2⟩
  go_wp2_with fail
  go_ret
  exact ⟨rfl, gtrans g1 (past g2)⟩
end Go.Proofs.Ytdeenkpkcibebaa
