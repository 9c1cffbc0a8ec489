/-
  No cell of these rows narrows 'for every input' (looked for: loops, veiled, ifaces, maps, wideKeys, modest, calm, conditions, laid).
  DERIVED. THE GIVEN ROWS OF THIS SEAT. 6 by the template 'for every input the law returns true; each argument reads behind the call as it read before'; 0 by the template 'total and deterministic' (their statements: YthghnpopcnnidaaTotals.lean).
  GIVEN WITH THE SEED: the statements are not yours to turn. If you find one false, say at which input.
  Laid BY PROGRAM, IN A SANDBOX (cutbox-rows.mjs): the forced cells as the released guide's own fill.sh prints them over the translation 76659efc5b166dd7… (all of the seat's roots in one cut). By AI agents, Wed Nov 11 2026. No macro, syntax, notation, axiom, sorry.
-/
import Derived.Test.YthghnpopcnnidaaChecked
import GoSem.Claim
import GoSem.ClaimJoined
import GoSem.ClaimMapViews
import Derived.JoinedTies
import Derived.KernelRfl
namespace Go.Proofs.Ythghnpopcnnidaa
/- THE CELL 'sum', in the pinned program and in every row, IS THE sha256 OF THE DUMP (.gsa) THAT YthghnpopcnnidaaProg.lean LOADS. Nothing in Lean hashes anything: it is a label: what it is worth is what the hold of that sum in a sandbox is worth. -/
noncomputable def Try.pinned : Pinned := { name := "ythghnpopcnnidaa", sum := "76659efc5b166dd7dbb4b130edf61fb9180c2dbc6005b78ba281a63ff0d48bb4", checked := Try.checked }
namespace Rows
def none {H : Type} : Left H := { results := [], args := [] }

/-- 'headgatelaw30.HeavyPlays': WHATEVER THE INPUT: true; the input reads as it did. -/
def heavyPlaysSpec : ChangeSpec := { name := "heavyPlays", fn := fun _ => fun
  | [d1, d2, d3, d4] => { results := [.lit (.bool true)], args := [d1, d2, d3, d4] }
  | _ => none }
def heavyPlaysRow : OpenClaim := { program := "ythghnpopcnnidaa", sum := "76659efc5b166dd7dbb4b130edf61fb9180c2dbc6005b78ba281a63ff0d48bb4", func := "headgate/headgatelaw30.HeavyPlays", spec := "heavyPlays", unfollowed := true, recurses := true, apart := false }
def HeavyPlaysSaid : Prop := heavyPlaysRow.holds Try.pinned (OpenSpec.ofChange heavyPlaysSpec)

/-- ITS FALSE NEIGHBOUR: 'it returns false'. Refute it at one input. -/
def heavyPlaysWrong : ChangeSpec := { name := "heavyPlays", fn := fun _ => fun
  | [d1, d2, d3, d4] => { results := [.lit (.bool false)], args := [d1, d2, d3, d4] }
  | _ => none }
def HeavyPlaysWrongFalsely : Prop := heavyPlaysRow.holds Try.pinned (OpenSpec.ofChange heavyPlaysWrong)

/-- 'headgatelaw30.HeavyBounds': WHATEVER THE INPUT: true; the input reads as it did. -/
def heavyBoundsSpec : ChangeSpec := { name := "heavyBounds", fn := fun _ => fun
  | [d1, d2, d3] => { results := [.lit (.bool true)], args := [d1, d2, d3] }
  | _ => none }
def heavyBoundsRow : OpenClaim := { program := "ythghnpopcnnidaa", sum := "76659efc5b166dd7dbb4b130edf61fb9180c2dbc6005b78ba281a63ff0d48bb4", func := "headgate/headgatelaw30.HeavyBounds", spec := "heavyBounds", unfollowed := true, recurses := true, apart := false }
def HeavyBoundsSaid : Prop := heavyBoundsRow.holds Try.pinned (OpenSpec.ofChange heavyBoundsSpec)

/-- ITS FALSE NEIGHBOUR: 'it returns false'. Refute it at one input. -/
def heavyBoundsWrong : ChangeSpec := { name := "heavyBounds", fn := fun _ => fun
  | [d1, d2, d3] => { results := [.lit (.bool false)], args := [d1, d2, d3] }
  | _ => none }
def HeavyBoundsWrongFalsely : Prop := heavyBoundsRow.holds Try.pinned (OpenSpec.ofChange heavyBoundsWrong)

/-- 'headgatelaw30.HeavySums': WHATEVER THE INPUT: true; the input reads as it did. -/
def heavySumsSpec : ChangeSpec := { name := "heavySums", fn := fun _ => fun
  | [d1, d2] => { results := [.lit (.bool true)], args := [d1, d2] }
  | _ => none }
def heavySumsRow : OpenClaim := { program := "ythghnpopcnnidaa", sum := "76659efc5b166dd7dbb4b130edf61fb9180c2dbc6005b78ba281a63ff0d48bb4", func := "headgate/headgatelaw30.HeavySums", spec := "heavySums", unfollowed := true, recurses := true, apart := false }
def HeavySumsSaid : Prop := heavySumsRow.holds Try.pinned (OpenSpec.ofChange heavySumsSpec)

/-- ITS FALSE NEIGHBOUR: 'it returns false'. Refute it at one input. -/
def heavySumsWrong : ChangeSpec := { name := "heavySums", fn := fun _ => fun
  | [d1, d2] => { results := [.lit (.bool false)], args := [d1, d2] }
  | _ => none }
def HeavySumsWrongFalsely : Prop := heavySumsRow.holds Try.pinned (OpenSpec.ofChange heavySumsWrong)

/-- 'headgatelaw30.HeavyHas': WHATEVER THE INPUT: true; the input reads as it did. -/
def heavyHasSpec : ChangeSpec := { name := "heavyHas", fn := fun _ => fun
  | [d1, d2] => { results := [.lit (.bool true)], args := [d1, d2] }
  | _ => none }
def heavyHasRow : OpenClaim := { program := "ythghnpopcnnidaa", sum := "76659efc5b166dd7dbb4b130edf61fb9180c2dbc6005b78ba281a63ff0d48bb4", func := "headgate/headgatelaw30.HeavyHas", spec := "heavyHas", unfollowed := true, recurses := true, apart := false }
def HeavyHasSaid : Prop := heavyHasRow.holds Try.pinned (OpenSpec.ofChange heavyHasSpec)

/-- ITS FALSE NEIGHBOUR: 'it returns false'. Refute it at one input. -/
def heavyHasWrong : ChangeSpec := { name := "heavyHas", fn := fun _ => fun
  | [d1, d2] => { results := [.lit (.bool false)], args := [d1, d2] }
  | _ => none }
def HeavyHasWrongFalsely : Prop := heavyHasRow.holds Try.pinned (OpenSpec.ofChange heavyHasWrong)

/-- 'headgatelaw30.HeavyExact': WHATEVER THE INPUT: true; the input reads as it did. -/
def heavyExactSpec : ChangeSpec := { name := "heavyExact", fn := fun _ => fun
  | [d] => { results := [.lit (.bool true)], args := [d] }
  | _ => none }
def heavyExactRow : OpenClaim := { program := "ythghnpopcnnidaa", sum := "76659efc5b166dd7dbb4b130edf61fb9180c2dbc6005b78ba281a63ff0d48bb4", func := "headgate/headgatelaw30.HeavyExact", spec := "heavyExact", unfollowed := true, recurses := true, apart := false }
def HeavyExactSaid : Prop := heavyExactRow.holds Try.pinned (OpenSpec.ofChange heavyExactSpec)

/-- ITS FALSE NEIGHBOUR: 'it returns false'. Refute it at one input. -/
def heavyExactWrong : ChangeSpec := { name := "heavyExact", fn := fun _ => fun
  | [d] => { results := [.lit (.bool false)], args := [d] }
  | _ => none }
def HeavyExactWrongFalsely : Prop := heavyExactRow.holds Try.pinned (OpenSpec.ofChange heavyExactWrong)

/-- 'headgatelaw30.HeavyCopies': WHATEVER THE INPUT: true; the input reads as it did. -/
def heavyCopiesSpec : ChangeSpec := { name := "heavyCopies", fn := fun _ => fun
  | [d1, d2, d3] => { results := [.lit (.bool true)], args := [d1, d2, d3] }
  | _ => none }
def heavyCopiesRow : OpenClaim := { program := "ythghnpopcnnidaa", sum := "76659efc5b166dd7dbb4b130edf61fb9180c2dbc6005b78ba281a63ff0d48bb4", func := "headgate/headgatelaw30.HeavyCopies", spec := "heavyCopies", unfollowed := true, recurses := true, apart := false }
def HeavyCopiesSaid : Prop := heavyCopiesRow.holds Try.pinned (OpenSpec.ofChange heavyCopiesSpec)

/-- ITS FALSE NEIGHBOUR: 'it returns false'. Refute it at one input. -/
def heavyCopiesWrong : ChangeSpec := { name := "heavyCopies", fn := fun _ => fun
  | [d1, d2, d3] => { results := [.lit (.bool false)], args := [d1, d2, d3] }
  | _ => none }
def HeavyCopiesWrongFalsely : Prop := heavyCopiesRow.holds Try.pinned (OpenSpec.ofChange heavyCopiesWrong)

/- THE SECOND FORM. 'bulk': how many values and letters a reading holds, each counted each time it is reached (what is shared counts as often as it is met; a slice's spare places count too). A statement '..UptoSaid' is the law's where the arguments, and the package variables that the reading takes, are together of bulk at most 1048576: NARROWER than '..Said'. Prove '..Said' where nothing that the law and all that it calls make is longer than what came in: it says more and counts as full. Else prove '..UptoSaid'. A law counts once. -/
mutual
def uptoBulk {H : Type} : DataW H → Nat
  | .lit (.string bytes) => bytes.length + 1
  | .lit _ => 1
  | .nil => 1
  | .ptr d => uptoBulk d + 1
  | .slice elems spare => uptoBulkAll elems + uptoBulkAll spare + 1
  | .agg parts => uptoBulkAll parts + 1
  | .iface _ d => uptoBulk d + 1
  | .map entries => uptoBulkEntries entries + 1
  | .held _ => 1
def uptoBulkAll {H : Type} : List (DataW H) → Nat
  | [] => 0
  | d :: r => uptoBulk d + uptoBulkAll r
def uptoBulkEntries {H : Type} : List (Lit × DataW H) → Nat
  | [] => 0
  | x :: r => uptoBulkEntry x + uptoBulkEntries r
def uptoBulkEntry {H : Type} : Lit × DataW H → Nat
  | (.string bytes, d) => bytes.length + uptoBulk d + 1
  | (_, d) => uptoBulk d + 1
 end
def uptoSmall : (H : Type) → List (DataW H) → Bool := fun _ ds => decide (uptoBulkAll ds ≤ 1048576)
def OpenSpec.upto (s : _root_.Go.ChangeSpec) : _root_.Go.OpenSpec := { _root_.Go.OpenSpec.ofChange s with cond := some uptoSmall }

/-- 'headgatelaw30.HeavyPlays', WHERE WHAT IT READS IS OF BULK AT MOST 1048576: true; the input reads as it did. -/
def heavyPlaysUptoRow : OpenClaim := { program := "ythghnpopcnnidaa", sum := "76659efc5b166dd7dbb4b130edf61fb9180c2dbc6005b78ba281a63ff0d48bb4", func := "headgate/headgatelaw30.HeavyPlays", spec := "heavyPlays", unfollowed := true, recurses := true, apart := false, narrowed := true }
def HeavyPlaysUptoSaid : Prop := heavyPlaysUptoRow.holds Try.pinned (OpenSpec.upto heavyPlaysSpec)

/-- 'headgatelaw30.HeavyBounds', WHERE WHAT IT READS IS OF BULK AT MOST 1048576: true; the input reads as it did. -/
def heavyBoundsUptoRow : OpenClaim := { program := "ythghnpopcnnidaa", sum := "76659efc5b166dd7dbb4b130edf61fb9180c2dbc6005b78ba281a63ff0d48bb4", func := "headgate/headgatelaw30.HeavyBounds", spec := "heavyBounds", unfollowed := true, recurses := true, apart := false, narrowed := true }
def HeavyBoundsUptoSaid : Prop := heavyBoundsUptoRow.holds Try.pinned (OpenSpec.upto heavyBoundsSpec)

/-- 'headgatelaw30.HeavySums', WHERE WHAT IT READS IS OF BULK AT MOST 1048576: true; the input reads as it did. -/
def heavySumsUptoRow : OpenClaim := { program := "ythghnpopcnnidaa", sum := "76659efc5b166dd7dbb4b130edf61fb9180c2dbc6005b78ba281a63ff0d48bb4", func := "headgate/headgatelaw30.HeavySums", spec := "heavySums", unfollowed := true, recurses := true, apart := false, narrowed := true }
def HeavySumsUptoSaid : Prop := heavySumsUptoRow.holds Try.pinned (OpenSpec.upto heavySumsSpec)

/-- 'headgatelaw30.HeavyHas', WHERE WHAT IT READS IS OF BULK AT MOST 1048576: true; the input reads as it did. -/
def heavyHasUptoRow : OpenClaim := { program := "ythghnpopcnnidaa", sum := "76659efc5b166dd7dbb4b130edf61fb9180c2dbc6005b78ba281a63ff0d48bb4", func := "headgate/headgatelaw30.HeavyHas", spec := "heavyHas", unfollowed := true, recurses := true, apart := false, narrowed := true }
def HeavyHasUptoSaid : Prop := heavyHasUptoRow.holds Try.pinned (OpenSpec.upto heavyHasSpec)

/-- 'headgatelaw30.HeavyExact', WHERE WHAT IT READS IS OF BULK AT MOST 1048576: true; the input reads as it did. -/
def heavyExactUptoRow : OpenClaim := { program := "ythghnpopcnnidaa", sum := "76659efc5b166dd7dbb4b130edf61fb9180c2dbc6005b78ba281a63ff0d48bb4", func := "headgate/headgatelaw30.HeavyExact", spec := "heavyExact", unfollowed := true, recurses := true, apart := false, narrowed := true }
def HeavyExactUptoSaid : Prop := heavyExactUptoRow.holds Try.pinned (OpenSpec.upto heavyExactSpec)

/-- 'headgatelaw30.HeavyCopies', WHERE WHAT IT READS IS OF BULK AT MOST 1048576: true; the input reads as it did. -/
def heavyCopiesUptoRow : OpenClaim := { program := "ythghnpopcnnidaa", sum := "76659efc5b166dd7dbb4b130edf61fb9180c2dbc6005b78ba281a63ff0d48bb4", func := "headgate/headgatelaw30.HeavyCopies", spec := "heavyCopies", unfollowed := true, recurses := true, apart := false, narrowed := true }
def HeavyCopiesUptoSaid : Prop := heavyCopiesUptoRow.holds Try.pinned (OpenSpec.upto heavyCopiesSpec)

end Rows
end Go.Proofs.Ythghnpopcnnidaa
