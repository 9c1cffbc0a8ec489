/- The walk of fold.Add. -/
import Derived.Test.YtnjojbanbcahnaaFoldSmall
namespace Go.Proofs.Ytnjojbanbcahnaa
open Go.RowKit Vm Fo
set_option linter.unusedVariables false

/-- What numbers came to, as a value. -/
abbrev av (a : Ag) : Value := .agg #[.int .i64 a.count, .int .i64 a.sum, .int .i64 a.min, .int .i64 a.max, .int .i64 a.h0, .int .i64 a.h1, .int .i64 a.h2, .int .i64 a.h3, .int .i64 a.re, .int .i64 a.im]

set_option maxRecDepth 100000 in
set_option maxHeartbeats 2000000 in
theorem add_walk (a : Ag) (v : Int) (w : World) (ha : AgWf a) (hv : I64 v) :
    Calls Try.prog 32 #[av a, .int .i64 v] w fun e w' => e = .returned (av (addA a v)) ∧ Below w.heap.size w w' := by
  obtain ⟨c, s, mi, ma, h0, h1, h2, h3, re, im⟩ := a
  obtain ⟨wc, ws, wmi, wma, w0, w1, w2, w3, wr, wi⟩ := ha
  simp only at wc ws wmi wma w0 w1 w2 w3 wr wi
  have hsm : ∀ x y (w : World), I64 x → I64 y → Calls Try.prog 60 #[.int .i64 x, .int .i64 y] w fun e w' => e = .returned (.int .i64 (sat x y)) ∧ w = w' := fun x y w h k => sum_walk x y w h k
  have H1 := Lib.hid hsm
  have i1 : I64 1 := by unfold I64; omega
  have it : I64 (tre v) := by unfold I64 tre; split; omega; split <;> omega
  have ii : I64 (tim v) := by unfold I64 tim; split; omega; split <;> omega
  have hr4 : (v % 4).toNat < 4 := by omega
  have er : (if (v % 4).toNat = 0 then 1 else if (v % 4).toNat = 2 then -1 else 0 : Int) = tre v := by
    unfold tre
    have : (v % 4).toNat = 0 ↔ v % 4 = 0 := by omega
    have : (v % 4).toNat = 2 ↔ v % 4 = 2 := by omega
    simp [*]
  have ei : (if (v % 4).toNat = 1 then 1 else if (v % 4).toNat = 3 then -1 else 0 : Int) = tim v := by
    unfold tim
    have : (v % 4).toNat = 1 ↔ v % 4 = 1 := by omega
    have : (v % 4).toNat = 3 ↔ v % 4 = 3 := by omega
    simp [*]
  have hcr := fun (w : World) => run_convert_float_int (P := Try.prog) w 101 3 .f64 .i64 (rre (v % 4).toNat) (tre v) (by rw [Try.underlying101]; rfl) Try.underlying3 (by rw [turn_re _ hr4, er])
  have hci := fun (w : World) => run_convert_float_int (P := Try.prog) w 101 3 .f64 .i64 (rim (v % 4).toNat) (tim v) (by rw [Try.underlying101]; rfl) Try.underlying3 (by rw [turn_im _ hr4, ei])
  have HR := Lib.hid (fun w => rotation_walk v w hv)
  have HS := Lib.hid (fun w => sort_walk v w)
  generalize rre (v % 4).toNat = R at *
  generalize rim (v % 4).toNat = J at *
  have HW0 := Lib.hid w0
  have HIT := Lib.hid it
  have HII := Lib.hid ii
  clear er ei hsm hr4
  have hk4 := srt_lt v
  have hc0 : c = 0 ∨ c ≠ 0 := Classical.em _
  have hkk : srt v = 0 ∨ srt v = 1 ∨ srt v = 2 ∨ srt v = 3 := by omega
  rcases hc0 with hc0 | hc0
  · have hb : (c == 0) = true := by rw [hc0]; rfl
    rcases hkk with hk | hk | hk | hk
    all_goals
      have hadd : addA ⟨c, s, mi, ma, h0, h1, h2, h3, re, im⟩ v = ⟨sat c 1, sat s v, v, v, bump (srt v) 0 h0, bump (srt v) 1 h1, bump (srt v) 2 h2, bump (srt v) 3 h3, sat re (tre v), sat im (tim v)⟩ := by
        unfold addA; simp only [hc0, if_true]
      rw [hadd, hk]
      simp only [bump, if_true, Nat.reduceEqDiff, if_false]
      rw [hk] at HS
      have HC := Lib.hid hc0
      clear hk hc0 hadd hk4 w0 it ii
      go_enter Try.func32, Try.ntmps32
      go_wp2_with fail
      refine (H1.out _ _ _ wc i1).mono ?_
      rintro e w1 ⟨rfl, rfl⟩
      go_wp2_with fail
      refine (H1.out _ _ _ ws hv).mono ?_
      rintro e w1 ⟨rfl, rfl⟩
      go_wp2_with fail
      refine (HS.out _).mono ?_
      rintro e w1 ⟨rfl, rfl⟩
      go_wp2_with fail
      refine (H1.out _ _ _ (by first | exact HW0.out | exact w1 | exact w2 | exact w3) i1).mono ?_
      rintro e w1 ⟨rfl, rfl⟩
      go_wp2_with fail
      refine (HR.out _).mono ?_
      rintro e w1 ⟨rfl, rfl⟩
      go_wp2_with fail
      refine (H1.out _ _ _ wr HIT.out).mono ?_
      rintro e w1 ⟨rfl, rfl⟩
      go_wp2_with fail
      refine (H1.out _ _ _ wi HII.out).mono ?_
      rintro e w1 ⟨rfl, rfl⟩
      go_wp2_with fail
      refine bodyPost_ret ?_ rfl ⟨rfl, ?_⟩
      · simp [results, Try.results32, go_sem]
      · exact ((Below.refl _ _).alloc (Nat.le_refl _) _).alloc (by simp) _
  · have hb : (c == 0) = false := by simpa using hc0
    by_cases hmi : v < mi
    · by_cases hma : ma < v
      · rcases hkk with hk | hk | hk | hk
        all_goals
          have hadd : addA ⟨c, s, mi, ma, h0, h1, h2, h3, re, im⟩ v = ⟨sat c 1, sat s v, v, v, bump (srt v) 0 h0, bump (srt v) 1 h1, bump (srt v) 2 h2, bump (srt v) 3 h3, sat re (tre v), sat im (tim v)⟩ := by
            unfold addA; simp only [if_neg hc0]; simp [*]
          rw [hadd, hk]
          simp only [bump, if_true, Nat.reduceEqDiff, if_false]
          rw [hk] at HS
          have HC := Lib.hid hc0
          clear hk hc0 hadd hk4 w0 it ii
          go_enter Try.func32, Try.ntmps32
          go_wp2_with fail
          refine (H1.out _ _ _ wc i1).mono ?_
          rintro e w1 ⟨rfl, rfl⟩
          go_wp2_with fail
          refine (H1.out _ _ _ ws hv).mono ?_
          rintro e w1 ⟨rfl, rfl⟩
          go_wp2_with fail
          refine (HS.out _).mono ?_
          rintro e w1 ⟨rfl, rfl⟩
          go_wp2_with fail
          refine (H1.out _ _ _ (by first | exact HW0.out | exact w1 | exact w2 | exact w3) i1).mono ?_
          rintro e w1 ⟨rfl, rfl⟩
          go_wp2_with fail
          refine (HR.out _).mono ?_
          rintro e w1 ⟨rfl, rfl⟩
          go_wp2_with fail
          refine (H1.out _ _ _ wr HIT.out).mono ?_
          rintro e w1 ⟨rfl, rfl⟩
          go_wp2_with fail
          refine (H1.out _ _ _ wi HII.out).mono ?_
          rintro e w1 ⟨rfl, rfl⟩
          go_wp2_with fail
          refine bodyPost_ret ?_ rfl ⟨rfl, ?_⟩
          · simp [results, Try.results32, go_sem]
          · exact ((Below.refl _ _).alloc (Nat.le_refl _) _).alloc (by simp) _
      · have hma2 : v ≤ ma := by omega
        rcases hkk with hk | hk | hk | hk
        all_goals
          have hadd : addA ⟨c, s, mi, ma, h0, h1, h2, h3, re, im⟩ v = ⟨sat c 1, sat s v, v, ma, bump (srt v) 0 h0, bump (srt v) 1 h1, bump (srt v) 2 h2, bump (srt v) 3 h3, sat re (tre v), sat im (tim v)⟩ := by
            unfold addA; simp only [if_neg hc0]; simp [*]
          rw [hadd, hk]
          simp only [bump, if_true, Nat.reduceEqDiff, if_false]
          rw [hk] at HS
          have HC := Lib.hid hc0
          clear hk hc0 hadd hk4 w0 it ii
          go_enter Try.func32, Try.ntmps32
          go_wp2_with fail
          refine (H1.out _ _ _ wc i1).mono ?_
          rintro e w1 ⟨rfl, rfl⟩
          go_wp2_with fail
          refine (H1.out _ _ _ ws hv).mono ?_
          rintro e w1 ⟨rfl, rfl⟩
          go_wp2_with fail
          refine (HS.out _).mono ?_
          rintro e w1 ⟨rfl, rfl⟩
          go_wp2_with fail
          refine (H1.out _ _ _ (by first | exact HW0.out | exact w1 | exact w2 | exact w3) i1).mono ?_
          rintro e w1 ⟨rfl, rfl⟩
          go_wp2_with fail
          refine (HR.out _).mono ?_
          rintro e w1 ⟨rfl, rfl⟩
          go_wp2_with fail
          refine (H1.out _ _ _ wr HIT.out).mono ?_
          rintro e w1 ⟨rfl, rfl⟩
          go_wp2_with fail
          refine (H1.out _ _ _ wi HII.out).mono ?_
          rintro e w1 ⟨rfl, rfl⟩
          go_wp2_with fail
          refine bodyPost_ret ?_ rfl ⟨rfl, ?_⟩
          · simp [results, Try.results32, go_sem]
          · exact ((Below.refl _ _).alloc (Nat.le_refl _) _).alloc (by simp) _
    · have hmi2 : mi ≤ v := by omega
      by_cases hma : ma < v
      · rcases hkk with hk | hk | hk | hk
        all_goals
          have hadd : addA ⟨c, s, mi, ma, h0, h1, h2, h3, re, im⟩ v = ⟨sat c 1, sat s v, mi, v, bump (srt v) 0 h0, bump (srt v) 1 h1, bump (srt v) 2 h2, bump (srt v) 3 h3, sat re (tre v), sat im (tim v)⟩ := by
            unfold addA; simp only [if_neg hc0]; simp [*]
          rw [hadd, hk]
          simp only [bump, if_true, Nat.reduceEqDiff, if_false]
          rw [hk] at HS
          have HC := Lib.hid hc0
          clear hk hc0 hadd hk4 w0 it ii
          go_enter Try.func32, Try.ntmps32
          go_wp2_with fail
          refine (H1.out _ _ _ wc i1).mono ?_
          rintro e w1 ⟨rfl, rfl⟩
          go_wp2_with fail
          refine (H1.out _ _ _ ws hv).mono ?_
          rintro e w1 ⟨rfl, rfl⟩
          go_wp2_with fail
          refine (HS.out _).mono ?_
          rintro e w1 ⟨rfl, rfl⟩
          go_wp2_with fail
          refine (H1.out _ _ _ (by first | exact HW0.out | exact w1 | exact w2 | exact w3) i1).mono ?_
          rintro e w1 ⟨rfl, rfl⟩
          go_wp2_with fail
          refine (HR.out _).mono ?_
          rintro e w1 ⟨rfl, rfl⟩
          go_wp2_with fail
          refine (H1.out _ _ _ wr HIT.out).mono ?_
          rintro e w1 ⟨rfl, rfl⟩
          go_wp2_with fail
          refine (H1.out _ _ _ wi HII.out).mono ?_
          rintro e w1 ⟨rfl, rfl⟩
          go_wp2_with fail
          refine bodyPost_ret ?_ rfl ⟨rfl, ?_⟩
          · simp [results, Try.results32, go_sem]
          · exact ((Below.refl _ _).alloc (Nat.le_refl _) _).alloc (by simp) _
      · have hma2 : v ≤ ma := by omega
        rcases hkk with hk | hk | hk | hk
        all_goals
          have hadd : addA ⟨c, s, mi, ma, h0, h1, h2, h3, re, im⟩ v = ⟨sat c 1, sat s v, mi, ma, bump (srt v) 0 h0, bump (srt v) 1 h1, bump (srt v) 2 h2, bump (srt v) 3 h3, sat re (tre v), sat im (tim v)⟩ := by
            unfold addA; simp only [if_neg hc0]; simp [*]
          rw [hadd, hk]
          simp only [bump, if_true, Nat.reduceEqDiff, if_false]
          rw [hk] at HS
          have HC := Lib.hid hc0
          clear hk hc0 hadd hk4 w0 it ii
          go_enter Try.func32, Try.ntmps32
          go_wp2_with fail
          refine (H1.out _ _ _ wc i1).mono ?_
          rintro e w1 ⟨rfl, rfl⟩
          go_wp2_with fail
          refine (H1.out _ _ _ ws hv).mono ?_
          rintro e w1 ⟨rfl, rfl⟩
          go_wp2_with fail
          refine (HS.out _).mono ?_
          rintro e w1 ⟨rfl, rfl⟩
          go_wp2_with fail
          refine (H1.out _ _ _ (by first | exact HW0.out | exact w1 | exact w2 | exact w3) i1).mono ?_
          rintro e w1 ⟨rfl, rfl⟩
          go_wp2_with fail
          refine (HR.out _).mono ?_
          rintro e w1 ⟨rfl, rfl⟩
          go_wp2_with fail
          refine (H1.out _ _ _ wr HIT.out).mono ?_
          rintro e w1 ⟨rfl, rfl⟩
          go_wp2_with fail
          refine (H1.out _ _ _ wi HII.out).mono ?_
          rintro e w1 ⟨rfl, rfl⟩
          go_wp2_with fail
          refine bodyPost_ret ?_ rfl ⟨rfl, ?_⟩
          · simp [results, Try.results32, go_sem]
          · exact ((Below.refl _ _).alloc (Nat.le_refl _) _).alloc (by simp) _
end Go.Proofs.Ytnjojbanbcahnaa
