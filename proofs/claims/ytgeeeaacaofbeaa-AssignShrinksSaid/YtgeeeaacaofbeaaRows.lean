/-
  No cell of these rows narrows 'for every input' (looked for: loops, veiled, ifaces, maps, wideKeys, modest, calm, conditions, laid).
  DERIVED. THE GIVEN ROWS OF THIS SEAT. 7 by the template 'for every input the law returns true; each argument reads behind the call as it read before'; 0 by the template 'total and deterministic' (their statements: YtgeeeaacaofbeaaTotals.lean).
  GIVEN WITH THE SEED: the statements are not yours to turn. If you find one false, say at which input.
  Laid BY PROGRAM, IN A SANDBOX (cutbox-rows.mjs): the forced cells as the released guide's own fill.sh prints them over the translation 4d638c92a79da440… (all of the seat's roots in one cut). By AI agents, Wed Nov 11 2026. No macro, syntax, notation, axiom, sorry.
-/
import Derived.Test.YtgeeeaacaofbeaaChecked
import GoSem.Claim
import GoSem.ClaimJoined
import GoSem.ClaimMapViews
import Derived.JoinedTies
import Derived.KernelRfl
namespace Go.Proofs.Ytgeeeaacaofbeaa
/- THE CELL 'sum', in the pinned program and in every row, IS THE sha256 OF THE DUMP (.gsa) THAT YtgeeeaacaofbeaaProg.lean LOADS. Nothing in Lean hashes anything: it is a label: what it is worth is what the hold of that sum in a sandbox is worth. -/
noncomputable def Try.pinned : Pinned := { name := "ytgeeeaacaofbeaa", sum := "4d638c92a79da4400840e4eaf0aaf041e41399517f9f476f98074315f4027764", checked := Try.checked }
namespace Rows
def none {H : Type} : Left H := { results := [], args := [] }

/-- 'headgatelaw09.AssignRanges': WHATEVER THE INPUT: true; the input reads as it did. -/
def assignRangesSpec : ChangeSpec := { name := "assignRanges", fn := fun _ => fun
  | [d1, d2] => { results := [.lit (.bool true)], args := [d1, d2] }
  | _ => none }
def assignRangesRow : OpenClaim := { program := "ytgeeeaacaofbeaa", sum := "4d638c92a79da4400840e4eaf0aaf041e41399517f9f476f98074315f4027764", func := "headgate/headgatelaw09.AssignRanges", spec := "assignRanges", unfollowed := true, recurses := true, apart := false }
def AssignRangesSaid : Prop := assignRangesRow.holds Try.pinned (OpenSpec.ofChange assignRangesSpec)

/-- ITS FALSE NEIGHBOUR: 'it returns false'. Refute it at one input. -/
def assignRangesWrong : ChangeSpec := { name := "assignRanges", fn := fun _ => fun
  | [d1, d2] => { results := [.lit (.bool false)], args := [d1, d2] }
  | _ => none }
def AssignRangesWrongFalsely : Prop := assignRangesRow.holds Try.pinned (OpenSpec.ofChange assignRangesWrong)

/-- 'headgatelaw09.AssignSticks': WHATEVER THE INPUT: true; the input reads as it did. -/
def assignSticksSpec : ChangeSpec := { name := "assignSticks", fn := fun _ => fun
  | [d1, d2, d3] => { results := [.lit (.bool true)], args := [d1, d2, d3] }
  | _ => none }
def assignSticksRow : OpenClaim := { program := "ytgeeeaacaofbeaa", sum := "4d638c92a79da4400840e4eaf0aaf041e41399517f9f476f98074315f4027764", func := "headgate/headgatelaw09.AssignSticks", spec := "assignSticks", unfollowed := true, recurses := true, apart := false }
def AssignSticksSaid : Prop := assignSticksRow.holds Try.pinned (OpenSpec.ofChange assignSticksSpec)

/-- ITS FALSE NEIGHBOUR: 'it returns false'. Refute it at one input. -/
def assignSticksWrong : ChangeSpec := { name := "assignSticks", fn := fun _ => fun
  | [d1, d2, d3] => { results := [.lit (.bool false)], args := [d1, d2, d3] }
  | _ => none }
def AssignSticksWrongFalsely : Prop := assignSticksRow.holds Try.pinned (OpenSpec.ofChange assignSticksWrong)

/-- 'headgatelaw09.AssignFair': WHATEVER THE INPUT: true; the input reads as it did. -/
def assignFairSpec : ChangeSpec := { name := "assignFair", fn := fun _ => fun
  | [d1, d2, d3] => { results := [.lit (.bool true)], args := [d1, d2, d3] }
  | _ => none }
def assignFairRow : OpenClaim := { program := "ytgeeeaacaofbeaa", sum := "4d638c92a79da4400840e4eaf0aaf041e41399517f9f476f98074315f4027764", func := "headgate/headgatelaw09.AssignFair", spec := "assignFair", unfollowed := true, recurses := true, apart := false }
def AssignFairSaid : Prop := assignFairRow.holds Try.pinned (OpenSpec.ofChange assignFairSpec)

/-- ITS FALSE NEIGHBOUR: 'it returns false'. Refute it at one input. -/
def assignFairWrong : ChangeSpec := { name := "assignFair", fn := fun _ => fun
  | [d1, d2, d3] => { results := [.lit (.bool false)], args := [d1, d2, d3] }
  | _ => none }
def AssignFairWrongFalsely : Prop := assignFairRow.holds Try.pinned (OpenSpec.ofChange assignFairWrong)

/-- 'headgatelaw09.AssignKeeps': WHATEVER THE INPUT: true; the input reads as it did. -/
def assignKeepsSpec : ChangeSpec := { name := "assignKeeps", fn := fun _ => fun
  | [d1, d2, d3] => { results := [.lit (.bool true)], args := [d1, d2, d3] }
  | _ => none }
def assignKeepsRow : OpenClaim := { program := "ytgeeeaacaofbeaa", sum := "4d638c92a79da4400840e4eaf0aaf041e41399517f9f476f98074315f4027764", func := "headgate/headgatelaw09.AssignKeeps", spec := "assignKeeps", unfollowed := true, recurses := true, apart := false }
def AssignKeepsSaid : Prop := assignKeepsRow.holds Try.pinned (OpenSpec.ofChange assignKeepsSpec)

/-- ITS FALSE NEIGHBOUR: 'it returns false'. Refute it at one input. -/
def assignKeepsWrong : ChangeSpec := { name := "assignKeeps", fn := fun _ => fun
  | [d1, d2, d3] => { results := [.lit (.bool false)], args := [d1, d2, d3] }
  | _ => none }
def AssignKeepsWrongFalsely : Prop := assignKeepsRow.holds Try.pinned (OpenSpec.ofChange assignKeepsWrong)

/-- 'headgatelaw09.AssignStays': WHATEVER THE INPUT: true; the input reads as it did. -/
def assignStaysSpec : ChangeSpec := { name := "assignStays", fn := fun _ => fun
  | [d1, d2, d3] => { results := [.lit (.bool true)], args := [d1, d2, d3] }
  | _ => none }
def assignStaysRow : OpenClaim := { program := "ytgeeeaacaofbeaa", sum := "4d638c92a79da4400840e4eaf0aaf041e41399517f9f476f98074315f4027764", func := "headgate/headgatelaw09.AssignStays", spec := "assignStays", unfollowed := true, recurses := true, apart := false }
def AssignStaysSaid : Prop := assignStaysRow.holds Try.pinned (OpenSpec.ofChange assignStaysSpec)

/-- ITS FALSE NEIGHBOUR: 'it returns false'. Refute it at one input. -/
def assignStaysWrong : ChangeSpec := { name := "assignStays", fn := fun _ => fun
  | [d1, d2, d3] => { results := [.lit (.bool false)], args := [d1, d2, d3] }
  | _ => none }
def AssignStaysWrongFalsely : Prop := assignStaysRow.holds Try.pinned (OpenSpec.ofChange assignStaysWrong)

/-- 'headgatelaw09.AssignShrinks': WHATEVER THE INPUT: true; the input reads as it did. -/
def assignShrinksSpec : ChangeSpec := { name := "assignShrinks", fn := fun _ => fun
  | [d1, d2, d3, d4] => { results := [.lit (.bool true)], args := [d1, d2, d3, d4] }
  | _ => none }
def assignShrinksRow : OpenClaim := { program := "ytgeeeaacaofbeaa", sum := "4d638c92a79da4400840e4eaf0aaf041e41399517f9f476f98074315f4027764", func := "headgate/headgatelaw09.AssignShrinks", spec := "assignShrinks", unfollowed := true, recurses := true, apart := false }
def AssignShrinksSaid : Prop := assignShrinksRow.holds Try.pinned (OpenSpec.ofChange assignShrinksSpec)

/-- ITS FALSE NEIGHBOUR: 'it returns false'. Refute it at one input. -/
def assignShrinksWrong : ChangeSpec := { name := "assignShrinks", fn := fun _ => fun
  | [d1, d2, d3, d4] => { results := [.lit (.bool false)], args := [d1, d2, d3, d4] }
  | _ => none }
def AssignShrinksWrongFalsely : Prop := assignShrinksRow.holds Try.pinned (OpenSpec.ofChange assignShrinksWrong)

/-- 'headgatelaw09.AssignOrder': WHATEVER THE INPUT: true; the input reads as it did. -/
def assignOrderSpec : ChangeSpec := { name := "assignOrder", fn := fun _ => fun
  | [d1, d2, d3, d4] => { results := [.lit (.bool true)], args := [d1, d2, d3, d4] }
  | _ => none }
def assignOrderRow : OpenClaim := { program := "ytgeeeaacaofbeaa", sum := "4d638c92a79da4400840e4eaf0aaf041e41399517f9f476f98074315f4027764", func := "headgate/headgatelaw09.AssignOrder", spec := "assignOrder", unfollowed := true, recurses := true, apart := false }
def AssignOrderSaid : Prop := assignOrderRow.holds Try.pinned (OpenSpec.ofChange assignOrderSpec)

/-- ITS FALSE NEIGHBOUR: 'it returns false'. Refute it at one input. -/
def assignOrderWrong : ChangeSpec := { name := "assignOrder", fn := fun _ => fun
  | [d1, d2, d3, d4] => { results := [.lit (.bool false)], args := [d1, d2, d3, d4] }
  | _ => none }
def AssignOrderWrongFalsely : Prop := assignOrderRow.holds Try.pinned (OpenSpec.ofChange assignOrderWrong)

/- THE SECOND FORM. 'bulk': how many values and letters a reading holds, each counted each time it is reached (what is shared counts as often as it is met; a slice's spare places count too). A statement '..UptoSaid' is the law's where the arguments, and the package variables that the reading takes, are together of bulk at most 1048576: NARROWER than '..Said'. Prove '..Said' where nothing that the law and all that it calls make is longer than what came in: it says more and counts as full. Else prove '..UptoSaid'. A law counts once. -/
mutual
def uptoBulk {H : Type} : DataW H → Nat
  | .lit (.string bytes) => bytes.length + 1
  | .lit _ => 1
  | .nil => 1
  | .ptr d => uptoBulk d + 1
  | .slice elems spare => uptoBulkAll elems + uptoBulkAll spare + 1
  | .agg parts => uptoBulkAll parts + 1
  | .iface _ d => uptoBulk d + 1
  | .map entries => uptoBulkEntries entries + 1
  | .held _ => 1
def uptoBulkAll {H : Type} : List (DataW H) → Nat
  | [] => 0
  | d :: r => uptoBulk d + uptoBulkAll r
def uptoBulkEntries {H : Type} : List (Lit × DataW H) → Nat
  | [] => 0
  | x :: r => uptoBulkEntry x + uptoBulkEntries r
def uptoBulkEntry {H : Type} : Lit × DataW H → Nat
  | (.string bytes, d) => bytes.length + uptoBulk d + 1
  | (_, d) => uptoBulk d + 1
 end
def uptoSmall : (H : Type) → List (DataW H) → Bool := fun _ ds => decide (uptoBulkAll ds ≤ 1048576)
def OpenSpec.upto (s : _root_.Go.ChangeSpec) : _root_.Go.OpenSpec := { _root_.Go.OpenSpec.ofChange s with cond := some uptoSmall }

/-- 'headgatelaw09.AssignRanges', WHERE WHAT IT READS IS OF BULK AT MOST 1048576: true; the input reads as it did. -/
def assignRangesUptoRow : OpenClaim := { program := "ytgeeeaacaofbeaa", sum := "4d638c92a79da4400840e4eaf0aaf041e41399517f9f476f98074315f4027764", func := "headgate/headgatelaw09.AssignRanges", spec := "assignRanges", unfollowed := true, recurses := true, apart := false, narrowed := true }
def AssignRangesUptoSaid : Prop := assignRangesUptoRow.holds Try.pinned (OpenSpec.upto assignRangesSpec)

/-- 'headgatelaw09.AssignSticks', WHERE WHAT IT READS IS OF BULK AT MOST 1048576: true; the input reads as it did. -/
def assignSticksUptoRow : OpenClaim := { program := "ytgeeeaacaofbeaa", sum := "4d638c92a79da4400840e4eaf0aaf041e41399517f9f476f98074315f4027764", func := "headgate/headgatelaw09.AssignSticks", spec := "assignSticks", unfollowed := true, recurses := true, apart := false, narrowed := true }
def AssignSticksUptoSaid : Prop := assignSticksUptoRow.holds Try.pinned (OpenSpec.upto assignSticksSpec)

/-- 'headgatelaw09.AssignFair', WHERE WHAT IT READS IS OF BULK AT MOST 1048576: true; the input reads as it did. -/
def assignFairUptoRow : OpenClaim := { program := "ytgeeeaacaofbeaa", sum := "4d638c92a79da4400840e4eaf0aaf041e41399517f9f476f98074315f4027764", func := "headgate/headgatelaw09.AssignFair", spec := "assignFair", unfollowed := true, recurses := true, apart := false, narrowed := true }
def AssignFairUptoSaid : Prop := assignFairUptoRow.holds Try.pinned (OpenSpec.upto assignFairSpec)

/-- 'headgatelaw09.AssignKeeps', WHERE WHAT IT READS IS OF BULK AT MOST 1048576: true; the input reads as it did. -/
def assignKeepsUptoRow : OpenClaim := { program := "ytgeeeaacaofbeaa", sum := "4d638c92a79da4400840e4eaf0aaf041e41399517f9f476f98074315f4027764", func := "headgate/headgatelaw09.AssignKeeps", spec := "assignKeeps", unfollowed := true, recurses := true, apart := false, narrowed := true }
def AssignKeepsUptoSaid : Prop := assignKeepsUptoRow.holds Try.pinned (OpenSpec.upto assignKeepsSpec)

/-- 'headgatelaw09.AssignStays', WHERE WHAT IT READS IS OF BULK AT MOST 1048576: true; the input reads as it did. -/
def assignStaysUptoRow : OpenClaim := { program := "ytgeeeaacaofbeaa", sum := "4d638c92a79da4400840e4eaf0aaf041e41399517f9f476f98074315f4027764", func := "headgate/headgatelaw09.AssignStays", spec := "assignStays", unfollowed := true, recurses := true, apart := false, narrowed := true }
def AssignStaysUptoSaid : Prop := assignStaysUptoRow.holds Try.pinned (OpenSpec.upto assignStaysSpec)

/-- 'headgatelaw09.AssignShrinks', WHERE WHAT IT READS IS OF BULK AT MOST 1048576: true; the input reads as it did. -/
def assignShrinksUptoRow : OpenClaim := { program := "ytgeeeaacaofbeaa", sum := "4d638c92a79da4400840e4eaf0aaf041e41399517f9f476f98074315f4027764", func := "headgate/headgatelaw09.AssignShrinks", spec := "assignShrinks", unfollowed := true, recurses := true, apart := false, narrowed := true }
def AssignShrinksUptoSaid : Prop := assignShrinksUptoRow.holds Try.pinned (OpenSpec.upto assignShrinksSpec)

/-- 'headgatelaw09.AssignOrder', WHERE WHAT IT READS IS OF BULK AT MOST 1048576: true; the input reads as it did. -/
def assignOrderUptoRow : OpenClaim := { program := "ytgeeeaacaofbeaa", sum := "4d638c92a79da4400840e4eaf0aaf041e41399517f9f476f98074315f4027764", func := "headgate/headgatelaw09.AssignOrder", spec := "assignOrder", unfollowed := true, recurses := true, apart := false, narrowed := true }
def AssignOrderUptoSaid : Prop := assignOrderUptoRow.holds Try.pinned (OpenSpec.upto assignOrderSpec)

end Rows
end Go.Proofs.Ytgeeeaacaofbeaa
