/- The walk of headgatelaw07.rows; what the laws of layer 7 lean on. -/
import Derived.Test.YtfjnmjibifefgaaAwake7
import Derived.Test.YtfjnmjibifefgaaDdLight
namespace Go.Proofs.Ytfjnmjibifefgaa
open Go.RowKit Vm Bm
set_option linter.unusedVariables false
set_option linter.unusedSimpArgs false

theorem sl_pr_take {w : World} {B : Nat} {a : Option Addr} {l : List Pr} (h : Sl w B a (prCells l)) (M : Nat) : Sl w B a (prCells (l.take M)) := by
  rw [prCells_take]
  rcases h with h | ⟨b, o, e, hlt, hc⟩
  · exact .inl (by rw [h]; simp)
  · refine .inr ⟨b, o, e, hlt, fun j u hu => hc j u ?_⟩
    rw [List.getElem?_take] at hu
    split at hu
    · exact hu
    · cases hu
def RowsIs (N M : Nat) : Prop := (N ≤ 30 ∧ M = N) ∨ (30 < N ∧ M = 30)
theorem rowsIs_ex (N : Nat) : ∃ M, RowsIs N M := by
  by_cases h : N ≤ 30
  · exact ⟨N, .inl ⟨h, rfl⟩⟩
  · exact ⟨30, .inr ⟨by omega, rfl⟩⟩
set_option maxRecDepth 100000 in
set_option maxHeartbeats 1000000 in
theorem rows7_walk (N M : Nat) (a : Option Addr) (c : Nat) (w : World) (hM : RowsIs N M) (hc : N ≤ c) (hc2 : c ≤ maxLen) (ha : a = none → c = 0) :
    Calls Try.prog 16 #[.slice a N c] w fun e w' => e = .returned (.slice a M c) ∧ w' = w := by
  rcases hM with ⟨h, rfl⟩ | ⟨h, rfl⟩
  · have h2 : ¬ (30 : Int) < (M : Int) := by omega
    go_enter Try.func16, Try.ntmps16
    go_wp2_with fail
    go_ret
    exact ⟨rfl, rfl⟩
  · have h2 : (30 : Int) < (N : Int) := by omega
    cases a with
    | none => have := ha rfl; omega
    | some ad =>
      have h3 : 30 ≤ c := by omega
      have h4 : ¬ c < 30 := by omega
      have h5 : (30 : Int) ≤ (c : Int) := by omega
      clear ha hc
      go_enter Try.func16, Try.ntmps16
      go_wp2_with fail
      go_ret
      exact ⟨rfl, rfl⟩
theorem rowP_i {l : List Pr} {pid : Int} {r : Pr} {EE : Bool} (h : RowP l pid r EE) (hi : ∀ r ∈ l, PrI r) : I64 r.s ∧ I64 r.n := by
  rcases h with ⟨h, _⟩ | ⟨_, rfl, _⟩
  · have := hi r (getR_some prKey h).1
    exact ⟨this.2.2.1, this.2.2.2.1⟩
  · unfold I64; simp
end Go.Proofs.Ytfjnmjibifefgaa
