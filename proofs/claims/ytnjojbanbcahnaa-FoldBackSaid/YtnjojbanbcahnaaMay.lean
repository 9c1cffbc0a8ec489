/- Plain mathematics of 15.2: what may be. -/
import Derived.Test.YtnjojbanbcahnaaFo
namespace Go.Proofs.Ytnjojbanbcahnaa.Fo
open Vm
set_option linter.unusedVariables false

structure May (a : Ag) : Prop where
  c1 : 1 ≤ a.count
  c2 : a.count ≤ 1099511627776
  mm : a.min ≤ a.max
  n0 : 0 ≤ a.h0
  n1 : 0 ≤ a.h1
  n2 : 0 ≤ a.h2
  n3 : 0 ≤ a.h3
  all : a.h0 + a.h1 + a.h2 + a.h3 = a.count
  pp : a.re + a.im ≤ a.count
  pn : a.re - a.im ≤ a.count
  np : -a.re + a.im ≤ a.count
  nn : -a.re - a.im ≤ a.count
instance (a : Ag) : Decidable (May a) :=
  if h : 1 ≤ a.count ∧ a.count ≤ 1099511627776 ∧ a.min ≤ a.max ∧ 0 ≤ a.h0 ∧ 0 ≤ a.h1 ∧ 0 ≤ a.h2 ∧ 0 ≤ a.h3 ∧ a.h0 + a.h1 + a.h2 + a.h3 = a.count ∧ a.re + a.im ≤ a.count ∧ a.re - a.im ≤ a.count ∧ -a.re + a.im ≤ a.count ∧ -a.re - a.im ≤ a.count then
    .isTrue ⟨h.1, h.2.1, h.2.2.1, h.2.2.2.1, h.2.2.2.2.1, h.2.2.2.2.2.1, h.2.2.2.2.2.2.1, h.2.2.2.2.2.2.2.1, h.2.2.2.2.2.2.2.2.1, h.2.2.2.2.2.2.2.2.2.1, h.2.2.2.2.2.2.2.2.2.2.1, h.2.2.2.2.2.2.2.2.2.2.2⟩
  else .isFalse fun m => h ⟨m.1, m.2, m.3, m.4, m.5, m.6, m.7, m.8, m.9, m.10, m.11, m.12⟩
/-- The error of what may be, or not. -/
def codeA (a : Ag) : Int := if May a then 0 else 1
theorem codeA_yes {a : Ag} (h : May a) : codeA a = 0 := if_pos h
theorem codeA_no {a : Ag} (h : ¬ May a) : codeA a = 1 := if_neg h
end Go.Proofs.Ytnjojbanbcahnaa.Fo
