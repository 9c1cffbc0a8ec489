/-
  No cell of these rows narrows 'for every input' (looked for: loops, veiled, ifaces, maps, wideKeys, modest, calm, conditions, laid).
  DERIVED. THE GIVEN ROWS OF THIS SEAT. 6 by the template 'for every input the law returns true; each argument reads behind the call as it read before'; 0 by the template 'total and deterministic' (their statements: YtocmhmfaehnliaaTotals.lean).
  GIVEN WITH THE SEED: the statements are not yours to turn. If you find one false, say at which input.
  Laid BY PROGRAM, IN A SANDBOX (cutbox-rows.mjs): the forced cells as the released guide's own fill.sh prints them over the translation 61c2dec667c1eb11… (all of the seat's roots in one cut). By AI agents, Wed Nov 11 2026. No macro, syntax, notation, axiom, sorry.
-/
import Derived.Test.YtocmhmfaehnliaaChecked
import GoSem.Claim
import GoSem.ClaimJoined
import GoSem.ClaimMapViews
import Derived.JoinedTies
import Derived.KernelRfl
namespace Go.Proofs.Ytocmhmfaehnliaa
/- THE CELL 'sum', in the pinned program and in every row, IS THE sha256 OF THE DUMP (.gsa) THAT YtocmhmfaehnliaaProg.lean LOADS. Nothing in Lean hashes anything: it is a label: what it is worth is what the hold of that sum in a sandbox is worth. -/
noncomputable def Try.pinned : Pinned := { name := "ytocmhmfaehnliaa", sum := "61c2dec667c1eb11f9c6b5734c6be267c1e29a8c12e4a901d04a3b4719375d96", checked := Try.checked }
namespace Rows
def none {H : Type} : Left H := { results := [], args := [] }

/-- 'headgatelaw10.GroupPlays': WHATEVER THE INPUT: true; the input reads as it did. -/
def groupPlaysSpec : ChangeSpec := { name := "groupPlays", fn := fun _ => fun
  | [d1, d2] => { results := [.lit (.bool true)], args := [d1, d2] }
  | _ => none }
def groupPlaysRow : OpenClaim := { program := "ytocmhmfaehnliaa", sum := "61c2dec667c1eb11f9c6b5734c6be267c1e29a8c12e4a901d04a3b4719375d96", func := "headgate/headgatelaw10.GroupPlays", spec := "groupPlays", unfollowed := true, recurses := true, apart := false }
def GroupPlaysSaid : Prop := groupPlaysRow.holds Try.pinned (OpenSpec.ofChange groupPlaysSpec)

/-- ITS FALSE NEIGHBOUR: 'it returns false'. Refute it at one input. -/
def groupPlaysWrong : ChangeSpec := { name := "groupPlays", fn := fun _ => fun
  | [d1, d2] => { results := [.lit (.bool false)], args := [d1, d2] }
  | _ => none }
def GroupPlaysWrongFalsely : Prop := groupPlaysRow.holds Try.pinned (OpenSpec.ofChange groupPlaysWrong)

/-- 'headgatelaw10.GroupOwners': WHATEVER THE INPUT: true; the input reads as it did. -/
def groupOwnersSpec : ChangeSpec := { name := "groupOwners", fn := fun _ => fun
  | [d1, d2, d3] => { results := [.lit (.bool true)], args := [d1, d2, d3] }
  | _ => none }
def groupOwnersRow : OpenClaim := { program := "ytocmhmfaehnliaa", sum := "61c2dec667c1eb11f9c6b5734c6be267c1e29a8c12e4a901d04a3b4719375d96", func := "headgate/headgatelaw10.GroupOwners", spec := "groupOwners", unfollowed := true, recurses := true, apart := false }
def GroupOwnersSaid : Prop := groupOwnersRow.holds Try.pinned (OpenSpec.ofChange groupOwnersSpec)

/-- ITS FALSE NEIGHBOUR: 'it returns false'. Refute it at one input. -/
def groupOwnersWrong : ChangeSpec := { name := "groupOwners", fn := fun _ => fun
  | [d1, d2, d3] => { results := [.lit (.bool false)], args := [d1, d2, d3] }
  | _ => none }
def GroupOwnersWrongFalsely : Prop := groupOwnersRow.holds Try.pinned (OpenSpec.ofChange groupOwnersWrong)

/-- 'headgatelaw10.GroupRises': WHATEVER THE INPUT: true; the input reads as it did. -/
def groupRisesSpec : ChangeSpec := { name := "groupRises", fn := fun _ => fun
  | [d1, d2] => { results := [.lit (.bool true)], args := [d1, d2] }
  | _ => none }
def groupRisesRow : OpenClaim := { program := "ytocmhmfaehnliaa", sum := "61c2dec667c1eb11f9c6b5734c6be267c1e29a8c12e4a901d04a3b4719375d96", func := "headgate/headgatelaw10.GroupRises", spec := "groupRises", unfollowed := true, recurses := true, apart := false }
def GroupRisesSaid : Prop := groupRisesRow.holds Try.pinned (OpenSpec.ofChange groupRisesSpec)

/-- ITS FALSE NEIGHBOUR: 'it returns false'. Refute it at one input. -/
def groupRisesWrong : ChangeSpec := { name := "groupRises", fn := fun _ => fun
  | [d1, d2] => { results := [.lit (.bool false)], args := [d1, d2] }
  | _ => none }
def GroupRisesWrongFalsely : Prop := groupRisesRow.holds Try.pinned (OpenSpec.ofChange groupRisesWrong)

/-- 'headgatelaw10.GroupFences': WHATEVER THE INPUT: true; the input reads as it did. -/
def groupFencesSpec : ChangeSpec := { name := "groupFences", fn := fun _ => fun
  | [d1, d2, d3, d4, d5] => { results := [.lit (.bool true)], args := [d1, d2, d3, d4, d5] }
  | _ => none }
def groupFencesRow : OpenClaim := { program := "ytocmhmfaehnliaa", sum := "61c2dec667c1eb11f9c6b5734c6be267c1e29a8c12e4a901d04a3b4719375d96", func := "headgate/headgatelaw10.GroupFences", spec := "groupFences", unfollowed := true, recurses := true, apart := false }
def GroupFencesSaid : Prop := groupFencesRow.holds Try.pinned (OpenSpec.ofChange groupFencesSpec)

/-- ITS FALSE NEIGHBOUR: 'it returns false'. Refute it at one input. -/
def groupFencesWrong : ChangeSpec := { name := "groupFences", fn := fun _ => fun
  | [d1, d2, d3, d4, d5] => { results := [.lit (.bool false)], args := [d1, d2, d3, d4, d5] }
  | _ => none }
def GroupFencesWrongFalsely : Prop := groupFencesRow.holds Try.pinned (OpenSpec.ofChange groupFencesWrong)

/-- 'headgatelaw10.GroupExpires': WHATEVER THE INPUT: true; the input reads as it did. -/
def groupExpiresSpec : ChangeSpec := { name := "groupExpires", fn := fun _ => fun
  | [d1, d2, d3] => { results := [.lit (.bool true)], args := [d1, d2, d3] }
  | _ => none }
def groupExpiresRow : OpenClaim := { program := "ytocmhmfaehnliaa", sum := "61c2dec667c1eb11f9c6b5734c6be267c1e29a8c12e4a901d04a3b4719375d96", func := "headgate/headgatelaw10.GroupExpires", spec := "groupExpires", unfollowed := true, recurses := true, apart := false }
def GroupExpiresSaid : Prop := groupExpiresRow.holds Try.pinned (OpenSpec.ofChange groupExpiresSpec)

/-- ITS FALSE NEIGHBOUR: 'it returns false'. Refute it at one input. -/
def groupExpiresWrong : ChangeSpec := { name := "groupExpires", fn := fun _ => fun
  | [d1, d2, d3] => { results := [.lit (.bool false)], args := [d1, d2, d3] }
  | _ => none }
def GroupExpiresWrongFalsely : Prop := groupExpiresRow.holds Try.pinned (OpenSpec.ofChange groupExpiresWrong)

/-- 'headgatelaw10.GroupNone': WHATEVER THE INPUT: true; the input reads as it did. -/
def groupNoneSpec : ChangeSpec := { name := "groupNone", fn := fun _ => fun
  | [d1, d2, d3] => { results := [.lit (.bool true)], args := [d1, d2, d3] }
  | _ => none }
def groupNoneRow : OpenClaim := { program := "ytocmhmfaehnliaa", sum := "61c2dec667c1eb11f9c6b5734c6be267c1e29a8c12e4a901d04a3b4719375d96", func := "headgate/headgatelaw10.GroupNone", spec := "groupNone", unfollowed := true, recurses := true, apart := false }
def GroupNoneSaid : Prop := groupNoneRow.holds Try.pinned (OpenSpec.ofChange groupNoneSpec)

/-- ITS FALSE NEIGHBOUR: 'it returns false'. Refute it at one input. -/
def groupNoneWrong : ChangeSpec := { name := "groupNone", fn := fun _ => fun
  | [d1, d2, d3] => { results := [.lit (.bool false)], args := [d1, d2, d3] }
  | _ => none }
def GroupNoneWrongFalsely : Prop := groupNoneRow.holds Try.pinned (OpenSpec.ofChange groupNoneWrong)

/- THE SECOND FORM. 'bulk': how many values and letters a reading holds, each counted each time it is reached (what is shared counts as often as it is met; a slice's spare places count too). A statement '..UptoSaid' is the law's where the arguments, and the package variables that the reading takes, are together of bulk at most 1048576: NARROWER than '..Said'. Prove '..Said' where nothing that the law and all that it calls make is longer than what came in: it says more and counts as full. Else prove '..UptoSaid'. A law counts once. -/
mutual
def uptoBulk {H : Type} : DataW H → Nat
  | .lit (.string bytes) => bytes.length + 1
  | .lit _ => 1
  | .nil => 1
  | .ptr d => uptoBulk d + 1
  | .slice elems spare => uptoBulkAll elems + uptoBulkAll spare + 1
  | .agg parts => uptoBulkAll parts + 1
  | .iface _ d => uptoBulk d + 1
  | .map entries => uptoBulkEntries entries + 1
  | .held _ => 1
def uptoBulkAll {H : Type} : List (DataW H) → Nat
  | [] => 0
  | d :: r => uptoBulk d + uptoBulkAll r
def uptoBulkEntries {H : Type} : List (Lit × DataW H) → Nat
  | [] => 0
  | x :: r => uptoBulkEntry x + uptoBulkEntries r
def uptoBulkEntry {H : Type} : Lit × DataW H → Nat
  | (.string bytes, d) => bytes.length + uptoBulk d + 1
  | (_, d) => uptoBulk d + 1
 end
def uptoSmall : (H : Type) → List (DataW H) → Bool := fun _ ds => decide (uptoBulkAll ds ≤ 1048576)
def OpenSpec.upto (s : _root_.Go.ChangeSpec) : _root_.Go.OpenSpec := { _root_.Go.OpenSpec.ofChange s with cond := some uptoSmall }

/-- 'headgatelaw10.GroupPlays', WHERE WHAT IT READS IS OF BULK AT MOST 1048576: true; the input reads as it did. -/
def groupPlaysUptoRow : OpenClaim := { program := "ytocmhmfaehnliaa", sum := "61c2dec667c1eb11f9c6b5734c6be267c1e29a8c12e4a901d04a3b4719375d96", func := "headgate/headgatelaw10.GroupPlays", spec := "groupPlays", unfollowed := true, recurses := true, apart := false, narrowed := true }
def GroupPlaysUptoSaid : Prop := groupPlaysUptoRow.holds Try.pinned (OpenSpec.upto groupPlaysSpec)

/-- 'headgatelaw10.GroupOwners', WHERE WHAT IT READS IS OF BULK AT MOST 1048576: true; the input reads as it did. -/
def groupOwnersUptoRow : OpenClaim := { program := "ytocmhmfaehnliaa", sum := "61c2dec667c1eb11f9c6b5734c6be267c1e29a8c12e4a901d04a3b4719375d96", func := "headgate/headgatelaw10.GroupOwners", spec := "groupOwners", unfollowed := true, recurses := true, apart := false, narrowed := true }
def GroupOwnersUptoSaid : Prop := groupOwnersUptoRow.holds Try.pinned (OpenSpec.upto groupOwnersSpec)

/-- 'headgatelaw10.GroupRises', WHERE WHAT IT READS IS OF BULK AT MOST 1048576: true; the input reads as it did. -/
def groupRisesUptoRow : OpenClaim := { program := "ytocmhmfaehnliaa", sum := "61c2dec667c1eb11f9c6b5734c6be267c1e29a8c12e4a901d04a3b4719375d96", func := "headgate/headgatelaw10.GroupRises", spec := "groupRises", unfollowed := true, recurses := true, apart := false, narrowed := true }
def GroupRisesUptoSaid : Prop := groupRisesUptoRow.holds Try.pinned (OpenSpec.upto groupRisesSpec)

/-- 'headgatelaw10.GroupFences', WHERE WHAT IT READS IS OF BULK AT MOST 1048576: true; the input reads as it did. -/
def groupFencesUptoRow : OpenClaim := { program := "ytocmhmfaehnliaa", sum := "61c2dec667c1eb11f9c6b5734c6be267c1e29a8c12e4a901d04a3b4719375d96", func := "headgate/headgatelaw10.GroupFences", spec := "groupFences", unfollowed := true, recurses := true, apart := false, narrowed := true }
def GroupFencesUptoSaid : Prop := groupFencesUptoRow.holds Try.pinned (OpenSpec.upto groupFencesSpec)

/-- 'headgatelaw10.GroupExpires', WHERE WHAT IT READS IS OF BULK AT MOST 1048576: true; the input reads as it did. -/
def groupExpiresUptoRow : OpenClaim := { program := "ytocmhmfaehnliaa", sum := "61c2dec667c1eb11f9c6b5734c6be267c1e29a8c12e4a901d04a3b4719375d96", func := "headgate/headgatelaw10.GroupExpires", spec := "groupExpires", unfollowed := true, recurses := true, apart := false, narrowed := true }
def GroupExpiresUptoSaid : Prop := groupExpiresUptoRow.holds Try.pinned (OpenSpec.upto groupExpiresSpec)

/-- 'headgatelaw10.GroupNone', WHERE WHAT IT READS IS OF BULK AT MOST 1048576: true; the input reads as it did. -/
def groupNoneUptoRow : OpenClaim := { program := "ytocmhmfaehnliaa", sum := "61c2dec667c1eb11f9c6b5734c6be267c1e29a8c12e4a901d04a3b4719375d96", func := "headgate/headgatelaw10.GroupNone", spec := "groupNone", unfollowed := true, recurses := true, apart := false, narrowed := true }
def GroupNoneUptoSaid : Prop := groupNoneUptoRow.holds Try.pinned (OpenSpec.upto groupNoneSpec)

end Rows
end Go.Proofs.Ytocmhmfaehnliaa
