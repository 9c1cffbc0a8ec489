/- The walk of headgateref15.Add, one case. -/
import Derived.Test.YtnjojbanbcahnaaRefFoldAddBase
namespace Go.Proofs.Ytnjojbanbcahnaa
open Go.RowKit Vm Fo
set_option linter.unusedVariables false

namespace RefFoldAdd

set_option maxRecDepth 100000 in
set_option maxHeartbeats 8000000 in
theorem va (c s mi ma h0 h1 h2 h3 re im v : Int) (w : World) (ha : AgWf ⟨c, s, mi, ma, h0, h1, h2, h3, re, im⟩) (hv : I64 v) (hc0 : c ≠ 0) (hmi : v < mi) (hma : ¬ ma < v) :
    Calls Try.prog 33 #[av ⟨c, s, mi, ma, h0, h1, h2, h3, re, im⟩, .int .i64 v] w fun e w' => e = .returned (av (addA ⟨c, s, mi, ma, h0, h1, h2, h3, re, im⟩ v)) ∧ Below w.heap.size w w' := by
  obtain ⟨wc, ws, wmi, wma, w0, w1, w2, w3, wr, wi⟩ := ha
  simp only at wc ws wmi wma w0 w1 w2 w3 wr wi
  obtain ⟨r, e1, e2, e3, e4, e5, e6⟩ := wrapq hv
  have i1 : I64 1 := by unfold I64; omega
  have i2 : I64 (-1) := by unfold I64; omega
  have H1 := Lib.hid (fun x y (w : World) (h : I64 x) (k : I64 y) => plus_walk x y w h k)
  have HS := Lib.hid (fun w => ref_sort_walk v w)
  have HW0 := Lib.hid w0
  have hb : (c == 0) = false := by simpa using hc0
  have hadd : addA ⟨c, s, mi, ma, h0, h1, h2, h3, re, im⟩ v = ⟨sat c 1, sat s v, v, ma, bump (srt v) 0 h0, bump (srt v) 1 h1, bump (srt v) 2 h2, bump (srt v) 3 h3, sat re (tre v), sat im (tim v)⟩ := by
    unfold addA; simp only [if_neg hc0]; simp [hmi, hma]
  have hk4 := srt_lt v
  have hkk : srt v = 0 ∨ srt v = 1 ∨ srt v = 2 ∨ srt v = 3 := by omega
  have hrr : (r = 0 ∧ tre v = 1 ∧ tim v = 0) ∨ (r = 1 ∧ tre v = 0 ∧ tim v = 1) ∨ (r = 2 ∧ tre v = -1 ∧ tim v = 0) ∨ (r = 3 ∧ tre v = 0 ∧ tim v = -1) := by
    have hr : r = 0 ∨ r = 1 ∨ r = 2 ∨ r = 3 := by omega
    unfold tre tim
    rcases hr with rfl | rfl | rfl | rfl <;> simp [e1]
  have z0 : ∀ x, I64 x → sat x 0 = x := fun x hx => by unfold I64 at hx; rw [sat_in (by unfold Bot; omega) (by unfold Top; omega)]; omega
  rw [hadd]
  clear hadd hk4 w0 hc0
  rcases hkk with hk | hk | hk | hk
  all_goals
    rw [hk]
    rw [hk] at HS
    simp only [bump, if_true, Nat.reduceEqDiff, if_false]
    clear hk
    rcases hrr with ⟨rfl, r1, r2⟩ | ⟨rfl, r1, r2⟩ | ⟨rfl, r1, r2⟩ | ⟨rfl, r1, r2⟩
    all_goals
      rw [r1, r2]
      first | rw [z0 _ wi] | rw [z0 _ wr]
      clear e1 e2 z0 r1 r2
      go_enter Try.func33, Try.ntmps33
      go_wp2_with fail
      refine (H1.out _ _ _ wc i1).mono ?_
      rintro e w1 ⟨rfl, rfl⟩
      go_wp2_with fail
      refine (H1.out _ _ _ ws hv).mono ?_
      rintro e w1 ⟨rfl, rfl⟩
      go_wp2_with fail
      refine (HS.out _).mono ?_
      rintro e w1 ⟨rfl, rfl⟩
      go_wp2_with fail
      refine (H1.out _ _ _ (by first | exact HW0.out | exact w1 | exact w2 | exact w3) i1).mono ?_
      rintro e w1 ⟨rfl, rfl⟩
      go_wp2_with fail
      refine (H1.out _ _ _ (by first | exact wr | exact wi) (by first | exact i1 | exact i2)).mono ?_
      rintro e w1 ⟨rfl, rfl⟩
      go_wp2_with fail
      refine bodyPost_ret ?_ rfl ⟨rfl, ?_⟩
      · simp [results, Try.results33, go_sem]
      · exact (((Below.refl _ _).alloc (Nat.le_refl _) _).alloc (by simp) _).alloc (by simp; omega) _
end RefFoldAdd
end Go.Proofs.Ytnjojbanbcahnaa
