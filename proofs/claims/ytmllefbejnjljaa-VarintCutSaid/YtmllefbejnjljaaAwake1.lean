/- The chapter's examples, as the statements of layer 1 ask them. -/
import Derived.Test.YtmllefbejnjljaaPut
import Derived.Test.YtmllefbejnjljaaTake
import Derived.Test.YtmllefbejnjljaaRefPut
import Derived.Test.YtmllefbejnjljaaRefTake
namespace Go.Proofs.Ytmllefbejnjljaa
open Go.RowKit Vm
set_option linter.unusedVariables false

namespace Awake1
theorem p0 : str (putL 0) = ⟨#[0]⟩ := by unfold putL; rw [enc_small (by decide)]; rfl
theorem p1 : str (putL (-1)) = ⟨#[1]⟩ := by unfold putL; rw [enc_small (by decide)]; rfl
theorem p2 : str (putL 1) = ⟨#[2]⟩ := by unfold putL; rw [enc_small (by decide)]; rfl
theorem p3 : str (putL 64) = ⟨#[128, 1]⟩ := by unfold putL; rw [enc_big (by decide), enc_small (by decide)]; rfl
theorem t0 : takeA ⟨#[128, 0]⟩ = (0, [], 2) := by
  have h := take_zero [128] [] 0 (by intro b hb; simp at hb; subst hb; decide) (by decide) (by decide)
  exact Take.a_none h
theorem t1 : takeA ⟨#[1, 120]⟩ = (-1, [120], 0) := by
  have h := take_done [] [120] 1 (by intro b hb; simp at hb) (by decide) (by decide) (.inl rfl) (by decide)
  exact Take.a_some h
end Awake1

set_option maxRecDepth 100000 in
set_option maxHeartbeats 2000000 in
theorem awake1_walk (w : World) :
    Calls Try.prog 14 #[] w fun e w' => e = .returned (.bool true) ∧ Below w.heap.size w w' := by
  have H0 := Lib.hid (fun w => take_walk ⟨#[128, 0]⟩ w (by unfold maxLen; decide))
  have H1 := Lib.hid (fun w => take_walk ⟨#[1, 120]⟩ w (by unfold maxLen; decide))
  have hp0 := Awake1.p0
  have hp1 := Awake1.p1
  have hp2 := Awake1.p2
  have hp3 := Awake1.p3
  have ht0 := Awake1.t0
  have ht1 := Awake1.t1
  go_enter Try.func14, Try.ntmps14
  go_wp2_with fail
  refine (H0.out _).mono ?_
  rintro e w1 ⟨rfl, hd1⟩
  go_wp2_with fail
  refine (H1.out _).mono ?_
  rintro e w2 ⟨rfl, hd2⟩
  have hs1 : str [120] = ⟨#[120]⟩ := rfl
  have hs2 : str [] = ⟨#[]⟩ := rfl
  go_wp2_with fail
  refine (put_walk _ _ (by unfold I64; omega)).mono ?_
  rintro e w3 ⟨rfl, hb3⟩
  go_wp2_with fail
  refine (put_walk _ _ (by unfold I64; omega)).mono ?_
  rintro e w4 ⟨rfl, hb4⟩
  go_wp2_with fail
  refine (put_walk _ _ (by unfold I64; omega)).mono ?_
  rintro e w5 ⟨rfl, hb5⟩
  go_wp2_with fail
  refine (put_walk _ _ (by unfold I64; omega)).mono ?_
  rintro e w6 ⟨rfl, hb6⟩
  go_wp2_with fail
  go_ret
  exact ⟨rfl, gtrans (gtrans (gtrans (gtrans (gdrew ((hd1.below _)) hd2) hb3) hb4) hb5) hb6⟩
end Go.Proofs.Ytmllefbejnjljaa
