/-
  No cell of these rows narrows 'for every input' (looked for: loops, veiled, ifaces, maps, wideKeys, modest, calm, conditions, laid).
  DERIVED. THE GIVEN ROWS OF THIS SEAT. 6 by the template 'for every input the law returns true; each argument reads behind the call as it read before'; 0 by the template 'total and deterministic' (their statements: YtafibgekikjlhaaTotals.lean).
  GIVEN WITH THE SEED: the statements are not yours to turn. If you find one false, say at which input.
  Laid BY PROGRAM, IN A SANDBOX (cutbox-rows.mjs): the forced cells as the released guide's own fill.sh prints them over the translation cdf1add2553f995b… (all of the seat's roots in one cut). By AI agents, Wed Nov 11 2026. No macro, syntax, notation, axiom, sorry.
-/
import Derived.Test.YtafibgekikjlhaaChecked
import GoSem.Claim
import GoSem.ClaimJoined
import GoSem.ClaimMapViews
import Derived.JoinedTies
import Derived.KernelRfl
namespace Go.Proofs.Ytafibgekikjlhaa
/- THE CELL 'sum', in the pinned program and in every row, IS THE sha256 OF THE DUMP (.gsa) THAT YtafibgekikjlhaaProg.lean LOADS. Nothing in Lean hashes anything: it is a label: what it is worth is what the hold of that sum in a sandbox is worth. -/
noncomputable def Try.pinned : Pinned := { name := "ytafibgekikjlhaa", sum := "cdf1add2553f995be310f882f7b53b785b14f41f5aedab9948e18e1c89e70b43", checked := Try.checked }
namespace Rows
def none {H : Type} : Left H := { results := [], args := [] }

/-- 'headgatelaw09.AssignRanges': WHATEVER THE INPUT: true; the input reads as it did. -/
def assignRangesSpec : ChangeSpec := { name := "assignRanges", fn := fun _ => fun
  | [d1, d2] => { results := [.lit (.bool true)], args := [d1, d2] }
  | _ => none }
def assignRangesRow : OpenClaim := { program := "ytafibgekikjlhaa", sum := "cdf1add2553f995be310f882f7b53b785b14f41f5aedab9948e18e1c89e70b43", func := "headgate/headgatelaw09.AssignRanges", spec := "assignRanges", unfollowed := true, recurses := true, apart := false }
def AssignRangesSaid : Prop := assignRangesRow.holds Try.pinned (OpenSpec.ofChange assignRangesSpec)

/-- ITS FALSE NEIGHBOUR: 'it returns false'. Refute it at one input. -/
def assignRangesWrong : ChangeSpec := { name := "assignRanges", fn := fun _ => fun
  | [d1, d2] => { results := [.lit (.bool false)], args := [d1, d2] }
  | _ => none }
def AssignRangesWrongFalsely : Prop := assignRangesRow.holds Try.pinned (OpenSpec.ofChange assignRangesWrong)

/-- 'headgatelaw35.CoopPlays': WHATEVER THE INPUT: true; the input reads as it did. -/
def coopPlaysSpec : ChangeSpec := { name := "coopPlays", fn := fun _ => fun
  | [d1, d2] => { results := [.lit (.bool true)], args := [d1, d2] }
  | _ => none }
def coopPlaysRow : OpenClaim := { program := "ytafibgekikjlhaa", sum := "cdf1add2553f995be310f882f7b53b785b14f41f5aedab9948e18e1c89e70b43", func := "headgate/headgatelaw35.CoopPlays", spec := "coopPlays", unfollowed := true, recurses := true, apart := false }
def CoopPlaysSaid : Prop := coopPlaysRow.holds Try.pinned (OpenSpec.ofChange coopPlaysSpec)

/-- ITS FALSE NEIGHBOUR: 'it returns false'. Refute it at one input. -/
def coopPlaysWrong : ChangeSpec := { name := "coopPlays", fn := fun _ => fun
  | [d1, d2] => { results := [.lit (.bool false)], args := [d1, d2] }
  | _ => none }
def CoopPlaysWrongFalsely : Prop := coopPlaysRow.holds Try.pinned (OpenSpec.ofChange coopPlaysWrong)

/-- 'headgatelaw35.CoopMembers': WHATEVER THE INPUT: true; the input reads as it did. -/
def coopMembersSpec : ChangeSpec := { name := "coopMembers", fn := fun _ => fun
  | [d1, d2] => { results := [.lit (.bool true)], args := [d1, d2] }
  | _ => none }
def coopMembersRow : OpenClaim := { program := "ytafibgekikjlhaa", sum := "cdf1add2553f995be310f882f7b53b785b14f41f5aedab9948e18e1c89e70b43", func := "headgate/headgatelaw35.CoopMembers", spec := "coopMembers", unfollowed := true, recurses := true, apart := false }
def CoopMembersSaid : Prop := coopMembersRow.holds Try.pinned (OpenSpec.ofChange coopMembersSpec)

/-- ITS FALSE NEIGHBOUR: 'it returns false'. Refute it at one input. -/
def coopMembersWrong : ChangeSpec := { name := "coopMembers", fn := fun _ => fun
  | [d1, d2] => { results := [.lit (.bool false)], args := [d1, d2] }
  | _ => none }
def CoopMembersWrongFalsely : Prop := coopMembersRow.holds Try.pinned (OpenSpec.ofChange coopMembersWrong)

/-- 'headgatelaw35.CoopRests': WHATEVER THE INPUT: true; the input reads as it did. -/
def coopRestsSpec : ChangeSpec := { name := "coopRests", fn := fun _ => fun
  | [d1, d2, d3] => { results := [.lit (.bool true)], args := [d1, d2, d3] }
  | _ => none }
def coopRestsRow : OpenClaim := { program := "ytafibgekikjlhaa", sum := "cdf1add2553f995be310f882f7b53b785b14f41f5aedab9948e18e1c89e70b43", func := "headgate/headgatelaw35.CoopRests", spec := "coopRests", unfollowed := true, recurses := true, apart := false }
def CoopRestsSaid : Prop := coopRestsRow.holds Try.pinned (OpenSpec.ofChange coopRestsSpec)

/-- ITS FALSE NEIGHBOUR: 'it returns false'. Refute it at one input. -/
def coopRestsWrong : ChangeSpec := { name := "coopRests", fn := fun _ => fun
  | [d1, d2, d3] => { results := [.lit (.bool false)], args := [d1, d2, d3] }
  | _ => none }
def CoopRestsWrongFalsely : Prop := coopRestsRow.holds Try.pinned (OpenSpec.ofChange coopRestsWrong)

/-- 'headgatelaw35.CoopStays': WHATEVER THE INPUT: true; the input reads as it did. -/
def coopStaysSpec : ChangeSpec := { name := "coopStays", fn := fun _ => fun
  | [d1, d2, d3] => { results := [.lit (.bool true)], args := [d1, d2, d3] }
  | _ => none }
def coopStaysRow : OpenClaim := { program := "ytafibgekikjlhaa", sum := "cdf1add2553f995be310f882f7b53b785b14f41f5aedab9948e18e1c89e70b43", func := "headgate/headgatelaw35.CoopStays", spec := "coopStays", unfollowed := true, recurses := true, apart := false }
def CoopStaysSaid : Prop := coopStaysRow.holds Try.pinned (OpenSpec.ofChange coopStaysSpec)

/-- ITS FALSE NEIGHBOUR: 'it returns false'. Refute it at one input. -/
def coopStaysWrong : ChangeSpec := { name := "coopStays", fn := fun _ => fun
  | [d1, d2, d3] => { results := [.lit (.bool false)], args := [d1, d2, d3] }
  | _ => none }
def CoopStaysWrongFalsely : Prop := coopStaysRow.holds Try.pinned (OpenSpec.ofChange coopStaysWrong)

/-- 'headgatelaw35.CoopNone': WHATEVER THE INPUT: true; the input reads as it did. -/
def coopNoneSpec : ChangeSpec := { name := "coopNone", fn := fun _ => fun
  | [d1, d2] => { results := [.lit (.bool true)], args := [d1, d2] }
  | _ => none }
def coopNoneRow : OpenClaim := { program := "ytafibgekikjlhaa", sum := "cdf1add2553f995be310f882f7b53b785b14f41f5aedab9948e18e1c89e70b43", func := "headgate/headgatelaw35.CoopNone", spec := "coopNone", unfollowed := true, recurses := true, apart := false }
def CoopNoneSaid : Prop := coopNoneRow.holds Try.pinned (OpenSpec.ofChange coopNoneSpec)

/-- ITS FALSE NEIGHBOUR: 'it returns false'. Refute it at one input. -/
def coopNoneWrong : ChangeSpec := { name := "coopNone", fn := fun _ => fun
  | [d1, d2] => { results := [.lit (.bool false)], args := [d1, d2] }
  | _ => none }
def CoopNoneWrongFalsely : Prop := coopNoneRow.holds Try.pinned (OpenSpec.ofChange coopNoneWrong)

/- THE SECOND FORM. 'bulk': how many values and letters a reading holds, each counted each time it is reached (what is shared counts as often as it is met; a slice's spare places count too). A statement '..UptoSaid' is the law's where the arguments, and the package variables that the reading takes, are together of bulk at most 1048576: NARROWER than '..Said'. Prove '..Said' where nothing that the law and all that it calls make is longer than what came in: it says more and counts as full. Else prove '..UptoSaid'. A law counts once. -/
mutual
def uptoBulk {H : Type} : DataW H → Nat
  | .lit (.string bytes) => bytes.length + 1
  | .lit _ => 1
  | .nil => 1
  | .ptr d => uptoBulk d + 1
  | .slice elems spare => uptoBulkAll elems + uptoBulkAll spare + 1
  | .agg parts => uptoBulkAll parts + 1
  | .iface _ d => uptoBulk d + 1
  | .map entries => uptoBulkEntries entries + 1
  | .held _ => 1
def uptoBulkAll {H : Type} : List (DataW H) → Nat
  | [] => 0
  | d :: r => uptoBulk d + uptoBulkAll r
def uptoBulkEntries {H : Type} : List (Lit × DataW H) → Nat
  | [] => 0
  | x :: r => uptoBulkEntry x + uptoBulkEntries r
def uptoBulkEntry {H : Type} : Lit × DataW H → Nat
  | (.string bytes, d) => bytes.length + uptoBulk d + 1
  | (_, d) => uptoBulk d + 1
 end
def uptoSmall : (H : Type) → List (DataW H) → Bool := fun _ ds => decide (uptoBulkAll ds ≤ 1048576)
def OpenSpec.upto (s : _root_.Go.ChangeSpec) : _root_.Go.OpenSpec := { _root_.Go.OpenSpec.ofChange s with cond := some uptoSmall }

/-- 'headgatelaw09.AssignRanges', WHERE WHAT IT READS IS OF BULK AT MOST 1048576: true; the input reads as it did. -/
def assignRangesUptoRow : OpenClaim := { program := "ytafibgekikjlhaa", sum := "cdf1add2553f995be310f882f7b53b785b14f41f5aedab9948e18e1c89e70b43", func := "headgate/headgatelaw09.AssignRanges", spec := "assignRanges", unfollowed := true, recurses := true, apart := false, narrowed := true }
def AssignRangesUptoSaid : Prop := assignRangesUptoRow.holds Try.pinned (OpenSpec.upto assignRangesSpec)

/-- 'headgatelaw35.CoopPlays', WHERE WHAT IT READS IS OF BULK AT MOST 1048576: true; the input reads as it did. -/
def coopPlaysUptoRow : OpenClaim := { program := "ytafibgekikjlhaa", sum := "cdf1add2553f995be310f882f7b53b785b14f41f5aedab9948e18e1c89e70b43", func := "headgate/headgatelaw35.CoopPlays", spec := "coopPlays", unfollowed := true, recurses := true, apart := false, narrowed := true }
def CoopPlaysUptoSaid : Prop := coopPlaysUptoRow.holds Try.pinned (OpenSpec.upto coopPlaysSpec)

/-- 'headgatelaw35.CoopMembers', WHERE WHAT IT READS IS OF BULK AT MOST 1048576: true; the input reads as it did. -/
def coopMembersUptoRow : OpenClaim := { program := "ytafibgekikjlhaa", sum := "cdf1add2553f995be310f882f7b53b785b14f41f5aedab9948e18e1c89e70b43", func := "headgate/headgatelaw35.CoopMembers", spec := "coopMembers", unfollowed := true, recurses := true, apart := false, narrowed := true }
def CoopMembersUptoSaid : Prop := coopMembersUptoRow.holds Try.pinned (OpenSpec.upto coopMembersSpec)

/-- 'headgatelaw35.CoopRests', WHERE WHAT IT READS IS OF BULK AT MOST 1048576: true; the input reads as it did. -/
def coopRestsUptoRow : OpenClaim := { program := "ytafibgekikjlhaa", sum := "cdf1add2553f995be310f882f7b53b785b14f41f5aedab9948e18e1c89e70b43", func := "headgate/headgatelaw35.CoopRests", spec := "coopRests", unfollowed := true, recurses := true, apart := false, narrowed := true }
def CoopRestsUptoSaid : Prop := coopRestsUptoRow.holds Try.pinned (OpenSpec.upto coopRestsSpec)

/-- 'headgatelaw35.CoopStays', WHERE WHAT IT READS IS OF BULK AT MOST 1048576: true; the input reads as it did. -/
def coopStaysUptoRow : OpenClaim := { program := "ytafibgekikjlhaa", sum := "cdf1add2553f995be310f882f7b53b785b14f41f5aedab9948e18e1c89e70b43", func := "headgate/headgatelaw35.CoopStays", spec := "coopStays", unfollowed := true, recurses := true, apart := false, narrowed := true }
def CoopStaysUptoSaid : Prop := coopStaysUptoRow.holds Try.pinned (OpenSpec.upto coopStaysSpec)

/-- 'headgatelaw35.CoopNone', WHERE WHAT IT READS IS OF BULK AT MOST 1048576: true; the input reads as it did. -/
def coopNoneUptoRow : OpenClaim := { program := "ytafibgekikjlhaa", sum := "cdf1add2553f995be310f882f7b53b785b14f41f5aedab9948e18e1c89e70b43", func := "headgate/headgatelaw35.CoopNone", spec := "coopNone", unfollowed := true, recurses := true, apart := false, narrowed := true }
def CoopNoneUptoSaid : Prop := coopNoneUptoRow.holds Try.pinned (OpenSpec.upto coopNoneSpec)

end Rows
end Go.Proofs.Ytafibgekikjlhaa
