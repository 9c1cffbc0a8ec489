/- Plain mathematics of 15.3: what numbers came to may be. -/
import Derived.Test.YtnjojbanbcahnaaMay
namespace Go.Proofs.Ytnjojbanbcahnaa.Fo
open Vm
set_option linter.unusedVariables false

theorem sorts_all (l : List Int) : cnt (fun v => srt v == 0) l + cnt (fun v => srt v == 1) l + cnt (fun v => srt v == 2) l + cnt (fun v => srt v == 3) l = (l.length : Int) := by
  induction l with
  | nil => rfl
  | cons v l ih =>
    have e : ∀ p : Int → Bool, cnt p (v :: l) = cnt p l + (if p v then 1 else 0) := fun p => by
      unfold cnt; rw [List.countP_cons]; cases p v <;> simp
    rw [e, e, e, e, List.length_cons]
    have h4 := srt_lt v
    have hk : srt v = 0 ∨ srt v = 1 ∨ srt v = 2 ∨ srt v = 3 := by omega
    rcases hk with h | h | h | h <;> simp [h] <;> omega
theorem turns_all (l : List Int) : cnt (fun v => v % 4 == 0) l + cnt (fun v => v % 4 == 1) l + cnt (fun v => v % 4 == 2) l + cnt (fun v => v % 4 == 3) l = (l.length : Int) := by
  induction l with
  | nil => rfl
  | cons v l ih =>
    have e : ∀ p : Int → Bool, cnt p (v :: l) = cnt p l + (if p v then 1 else 0) := fun p => by
      unfold cnt; rw [List.countP_cons]; cases p v <;> simp
    rw [e, e, e, e, List.length_cons]
    have hk : v % 4 = 0 ∨ v % 4 = 1 ∨ v % 4 = 2 ∨ v % 4 = 3 := by omega
    rcases hk with h | h | h | h <;> simp [h] <;> omega
theorem all_may {l : List Int} (h0 : l ≠ []) (hl : l.length ≤ 1000000) : May (allA l) := by
  have i := inv_all hl
  have hs := sorts_all l
  have ht := turns_all l
  have hp : ∀ p, 0 ≤ cnt p l ∧ cnt p l ≤ (l.length : Int) := fun p => cnt_le p l
  have hpos : 0 < l.length := List.length_pos_iff.2 h0
  have s0 := hp (fun v => srt v == 0)
  have s1 := hp (fun v => srt v == 1)
  have s2 := hp (fun v => srt v == 2)
  have s3 := hp (fun v => srt v == 3)
  have t0 := hp (fun v => v % 4 == 0)
  have t1 := hp (fun v => v % 4 == 1)
  have t2 := hp (fun v => v % 4 == 2)
  have t3 := hp (fun v => v % 4 == 3)
  have c := i.count
  have e0 := i.h0
  have e1 := i.h1
  have e2 := i.h2
  have e3 := i.h3
  have er := i.re
  have ei := i.im
  have em := (i.min h0).2 _ (i.max h0).1
  exact ⟨by omega, by omega, em, by omega, by omega, by omega, by omega, by omega, by omega, by omega, by omega, by omega⟩
end Go.Proofs.Ytnjojbanbcahnaa.Fo
