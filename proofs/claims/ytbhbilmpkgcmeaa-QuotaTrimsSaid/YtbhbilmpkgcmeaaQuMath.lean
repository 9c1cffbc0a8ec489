/- Plain mathematics of quotas. -/
import Derived.Test.YtbhbilmpkgcmeaaAc
import Derived.Test.YtbhbilmpkgcmeaaPutR
namespace Go.Proofs.Ytbhbilmpkgcmeaa
open Go.RowKit Vm
set_option linter.unusedVariables false

def MayQ (t m : Int) : Prop := 1 ≤ t ∧ t ≤ 1048576 ∧ 1 ≤ m ∧ m ≤ 1048576
instance (t m : Int) : Decidable (MayQ t m) := by unfold MayQ; infer_instance
def OkQ (m now : Int) (l : List Ac) (i : Nat) : Prop := (0 ≤ (l.getD i ac0).o ∧ (l.getD i ac0).o ≤ 1099511627776) ∧ 0 ≤ (l.getD i ac0).l ∧ (l.getD i ac0).l ≤ m ∧ 0 ≤ (l.getD i ac0).s ∧ (l.getD i ac0).s ≤ now ∧ (0 < i → (l.getD (i - 1) ac0).o < (l.getD i ac0).o)
def PreQ (m now : Int) (l : List Ac) (k : Nat) : Prop := ∀ i, i < k → OkQ m now l i
def RightQ (t m : Int) (l : List Ac) (now : Int) : Prop := MayQ t m ∧ (0 ≤ now ∧ now ≤ 1099511627776) ∧ l.length ≤ 64 ∧ PreQ m now l l.length
theorem PreQ.zero (m now : Int) (l : List Ac) : PreQ m now l 0 := fun i h => by omega
theorem PreQ.succ {m now : Int} {l : List Ac} {k : Nat} (h : PreQ m now l k) (ho : OkQ m now l k) : PreQ m now l (k + 1) := fun i hi => by
  rcases Nat.lt_or_ge i k with h1 | h1
  · exact h i h1
  · rw [show i = k from by omega]; exact ho
def availQ (t m : Int) (a : Ac) (now : Int) : Int := if m ≤ a.l + t * (now - a.s) then m else a.l + t * (now - a.s)
theorem mul_boundQ {t d : Int} (h1 : 0 ≤ t) (h2 : t ≤ 1048576) (h3 : 0 ≤ d) (h4 : d ≤ 1099511627776) : 0 ≤ t * d ∧ t * d ≤ 1152921504606846976 := by
  have e : t * d ≤ 1048576 * d := Int.mul_le_mul_of_nonneg_right h2 h3
  exact ⟨Int.mul_nonneg h1 h3, by omega⟩
theorem availQ_le {t m : Int} {a : Ac} {now : Int} (ht : 1 ≤ t) (hl : 0 ≤ a.l) (hm : 0 ≤ m) (hs : a.s ≤ now) : 0 ≤ availQ t m a now ∧ availQ t m a now ≤ m := by
  have : 0 ≤ t * (now - a.s) := Int.mul_nonneg (by omega) (by omega)
  unfold availQ
  split <;> omega
end Go.Proofs.Ytbhbilmpkgcmeaa
