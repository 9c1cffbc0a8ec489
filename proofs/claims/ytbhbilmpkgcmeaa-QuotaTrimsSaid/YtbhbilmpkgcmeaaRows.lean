/-
  No cell of these rows narrows 'for every input' (looked for: loops, veiled, ifaces, maps, wideKeys, modest, calm, conditions, laid).
  DERIVED. THE GIVEN ROWS OF THIS SEAT. 11 by the template 'for every input the law returns true; each argument reads behind the call as it read before'; 0 by the template 'total and deterministic' (their statements: YtbhbilmpkgcmeaaTotals.lean).
  GIVEN WITH THE SEED: the statements are not yours to turn. If you find one false, say at which input.
  Laid BY PROGRAM, IN A SANDBOX (cutbox-rows.mjs): the forced cells as the released guide's own fill.sh prints them over the translation d6bd719e894f4797… (all of the seat's roots in one cut). By AI agents, Wed Nov 11 2026. No macro, syntax, notation, axiom, sorry.
-/
import Derived.Test.YtbhbilmpkgcmeaaChecked
import GoSem.Claim
import GoSem.ClaimJoined
import GoSem.ClaimMapViews
import Derived.JoinedTies
import Derived.KernelRfl
namespace Go.Proofs.Ytbhbilmpkgcmeaa
/- THE CELL 'sum', in the pinned program and in every row, IS THE sha256 OF THE DUMP (.gsa) THAT YtbhbilmpkgcmeaaProg.lean LOADS. Nothing in Lean hashes anything: it is a label: what it is worth is what the hold of that sum in a sandbox is worth. -/
noncomputable def Try.pinned : Pinned := { name := "ytbhbilmpkgcmeaa", sum := "d6bd719e894f479744cb94916d1dcfc6fa38e534676127ffc7b6139374cb2136", checked := Try.checked }
namespace Rows
def none {H : Type} : Left H := { results := [], args := [] }

/-- 'headgatelaw03.FrameRows': WHATEVER THE INPUT: true; the input reads as it did. -/
def frameRowsSpec : ChangeSpec := { name := "frameRows", fn := fun _ => fun
  | [d] => { results := [.lit (.bool true)], args := [d] }
  | _ => none }
def frameRowsRow : OpenClaim := { program := "ytbhbilmpkgcmeaa", sum := "d6bd719e894f479744cb94916d1dcfc6fa38e534676127ffc7b6139374cb2136", func := "headgate/headgatelaw03.FrameRows", spec := "frameRows", inPlace := ["internal/abi.NoEscape"], unfollowed := true, recurses := true, apart := false }
def FrameRowsSaid : Prop := frameRowsRow.holds Try.pinned (OpenSpec.ofChange frameRowsSpec)

/-- ITS FALSE NEIGHBOUR: 'it returns false'. Refute it at one input. -/
def frameRowsWrong : ChangeSpec := { name := "frameRows", fn := fun _ => fun
  | [d] => { results := [.lit (.bool false)], args := [d] }
  | _ => none }
def FrameRowsWrongFalsely : Prop := frameRowsRow.holds Try.pinned (OpenSpec.ofChange frameRowsWrong)

/-- 'headgatelaw03.FrameTorn': WHATEVER THE INPUT: true; the input reads as it did. -/
def frameTornSpec : ChangeSpec := { name := "frameTorn", fn := fun _ => fun
  | [d1, d2] => { results := [.lit (.bool true)], args := [d1, d2] }
  | _ => none }
def frameTornRow : OpenClaim := { program := "ytbhbilmpkgcmeaa", sum := "d6bd719e894f479744cb94916d1dcfc6fa38e534676127ffc7b6139374cb2136", func := "headgate/headgatelaw03.FrameTorn", spec := "frameTorn", inPlace := ["internal/abi.NoEscape"], unfollowed := true, recurses := true, apart := false }
def FrameTornSaid : Prop := frameTornRow.holds Try.pinned (OpenSpec.ofChange frameTornSpec)

/-- ITS FALSE NEIGHBOUR: 'it returns false'. Refute it at one input. -/
def frameTornWrong : ChangeSpec := { name := "frameTorn", fn := fun _ => fun
  | [d1, d2] => { results := [.lit (.bool false)], args := [d1, d2] }
  | _ => none }
def FrameTornWrongFalsely : Prop := frameTornRow.holds Try.pinned (OpenSpec.ofChange frameTornWrong)

/-- 'headgatelaw03.FrameEach': WHATEVER THE INPUT: true; the input reads as it did. -/
def frameEachSpec : ChangeSpec := { name := "frameEach", fn := fun _ => fun
  | [d1, d2] => { results := [.lit (.bool true)], args := [d1, d2] }
  | _ => none }
def frameEachRow : OpenClaim := { program := "ytbhbilmpkgcmeaa", sum := "d6bd719e894f479744cb94916d1dcfc6fa38e534676127ffc7b6139374cb2136", func := "headgate/headgatelaw03.FrameEach", spec := "frameEach", inPlace := ["internal/abi.NoEscape"], unfollowed := true, recurses := true, apart := false }
def FrameEachSaid : Prop := frameEachRow.holds Try.pinned (OpenSpec.ofChange frameEachSpec)

/-- ITS FALSE NEIGHBOUR: 'it returns false'. Refute it at one input. -/
def frameEachWrong : ChangeSpec := { name := "frameEach", fn := fun _ => fun
  | [d1, d2] => { results := [.lit (.bool false)], args := [d1, d2] }
  | _ => none }
def FrameEachWrongFalsely : Prop := frameEachRow.holds Try.pinned (OpenSpec.ofChange frameEachWrong)

/-- 'headgatelaw29.SketchAdds': WHATEVER THE INPUT: true; the input reads as it did. -/
def sketchAddsSpec : ChangeSpec := { name := "sketchAdds", fn := fun _ => fun
  | [d1, d2] => { results := [.lit (.bool true)], args := [d1, d2] }
  | _ => none }
def sketchAddsRow : OpenClaim := { program := "ytbhbilmpkgcmeaa", sum := "d6bd719e894f479744cb94916d1dcfc6fa38e534676127ffc7b6139374cb2136", func := "headgate/headgatelaw29.SketchAdds", spec := "sketchAdds", inPlace := ["slices.overlaps[headgate/api.Bucket]"], unfollowed := true, recurses := true, apart := false }
def SketchAddsSaid : Prop := sketchAddsRow.holds Try.pinned (OpenSpec.ofChange sketchAddsSpec)

/-- ITS FALSE NEIGHBOUR: 'it returns false'. Refute it at one input. -/
def sketchAddsWrong : ChangeSpec := { name := "sketchAdds", fn := fun _ => fun
  | [d1, d2] => { results := [.lit (.bool false)], args := [d1, d2] }
  | _ => none }
def SketchAddsWrongFalsely : Prop := sketchAddsRow.holds Try.pinned (OpenSpec.ofChange sketchAddsWrong)

/-- 'headgatelaw29.SketchParts': WHATEVER THE INPUT: true; the input reads as it did. -/
def sketchPartsSpec : ChangeSpec := { name := "sketchParts", fn := fun _ => fun
  | [d1, d2] => { results := [.lit (.bool true)], args := [d1, d2] }
  | _ => none }
def sketchPartsRow : OpenClaim := { program := "ytbhbilmpkgcmeaa", sum := "d6bd719e894f479744cb94916d1dcfc6fa38e534676127ffc7b6139374cb2136", func := "headgate/headgatelaw29.SketchParts", spec := "sketchParts", inPlace := ["slices.overlaps[headgate/api.Bucket]"], unfollowed := true, recurses := true, apart := false }
def SketchPartsSaid : Prop := sketchPartsRow.holds Try.pinned (OpenSpec.ofChange sketchPartsSpec)

/-- ITS FALSE NEIGHBOUR: 'it returns false'. Refute it at one input. -/
def sketchPartsWrong : ChangeSpec := { name := "sketchParts", fn := fun _ => fun
  | [d1, d2] => { results := [.lit (.bool false)], args := [d1, d2] }
  | _ => none }
def SketchPartsWrongFalsely : Prop := sketchPartsRow.holds Try.pinned (OpenSpec.ofChange sketchPartsWrong)

/-- 'headgatelaw29.SketchTells': WHATEVER THE INPUT: true; the input reads as it did. -/
def sketchTellsSpec : ChangeSpec := { name := "sketchTells", fn := fun _ => fun
  | [d1, d2, d3] => { results := [.lit (.bool true)], args := [d1, d2, d3] }
  | _ => none }
def sketchTellsRow : OpenClaim := { program := "ytbhbilmpkgcmeaa", sum := "d6bd719e894f479744cb94916d1dcfc6fa38e534676127ffc7b6139374cb2136", func := "headgate/headgatelaw29.SketchTells", spec := "sketchTells", inPlace := ["slices.overlaps[headgate/api.Bucket]"], unfollowed := true, recurses := true, apart := false }
def SketchTellsSaid : Prop := sketchTellsRow.holds Try.pinned (OpenSpec.ofChange sketchTellsSpec)

/-- ITS FALSE NEIGHBOUR: 'it returns false'. Refute it at one input. -/
def sketchTellsWrong : ChangeSpec := { name := "sketchTells", fn := fun _ => fun
  | [d1, d2, d3] => { results := [.lit (.bool false)], args := [d1, d2, d3] }
  | _ => none }
def SketchTellsWrongFalsely : Prop := sketchTellsRow.holds Try.pinned (OpenSpec.ofChange sketchTellsWrong)

/-- 'headgatelaw36.QuotaTakes': WHATEVER THE INPUT: true; the input reads as it did. -/
def quotaTakesSpec : ChangeSpec := { name := "quotaTakes", fn := fun _ => fun
  | [d1, d2, d3, d4, d5] => { results := [.lit (.bool true)], args := [d1, d2, d3, d4, d5] }
  | _ => none }
def quotaTakesRow : OpenClaim := { program := "ytbhbilmpkgcmeaa", sum := "d6bd719e894f479744cb94916d1dcfc6fa38e534676127ffc7b6139374cb2136", func := "headgate/headgatelaw36.QuotaTakes", spec := "quotaTakes", inPlace := ["slices.overlaps[headgate/api.Account]"], unfollowed := true, recurses := true, apart := false }
def QuotaTakesSaid : Prop := quotaTakesRow.holds Try.pinned (OpenSpec.ofChange quotaTakesSpec)

/-- ITS FALSE NEIGHBOUR: 'it returns false'. Refute it at one input. -/
def quotaTakesWrong : ChangeSpec := { name := "quotaTakes", fn := fun _ => fun
  | [d1, d2, d3, d4, d5] => { results := [.lit (.bool false)], args := [d1, d2, d3, d4, d5] }
  | _ => none }
def QuotaTakesWrongFalsely : Prop := quotaTakesRow.holds Try.pinned (OpenSpec.ofChange quotaTakesWrong)

/-- 'headgatelaw36.QuotaTrims': WHATEVER THE INPUT: true; the input reads as it did. -/
def quotaTrimsSpec : ChangeSpec := { name := "quotaTrims", fn := fun _ => fun
  | [d1, d2, d3, d4, d5] => { results := [.lit (.bool true)], args := [d1, d2, d3, d4, d5] }
  | _ => none }
def quotaTrimsRow : OpenClaim := { program := "ytbhbilmpkgcmeaa", sum := "d6bd719e894f479744cb94916d1dcfc6fa38e534676127ffc7b6139374cb2136", func := "headgate/headgatelaw36.QuotaTrims", spec := "quotaTrims", inPlace := ["slices.overlaps[headgate/api.Account]"], unfollowed := true, recurses := true, apart := false }
def QuotaTrimsSaid : Prop := quotaTrimsRow.holds Try.pinned (OpenSpec.ofChange quotaTrimsSpec)

/-- ITS FALSE NEIGHBOUR: 'it returns false'. Refute it at one input. -/
def quotaTrimsWrong : ChangeSpec := { name := "quotaTrims", fn := fun _ => fun
  | [d1, d2, d3, d4, d5] => { results := [.lit (.bool false)], args := [d1, d2, d3, d4, d5] }
  | _ => none }
def QuotaTrimsWrongFalsely : Prop := quotaTrimsRow.holds Try.pinned (OpenSpec.ofChange quotaTrimsWrong)

/-- 'headgatelaw36.QuotaBounds': WHATEVER THE INPUT: true; the input reads as it did. -/
def quotaBoundsSpec : ChangeSpec := { name := "quotaBounds", fn := fun _ => fun
  | [d1, d2] => { results := [.lit (.bool true)], args := [d1, d2] }
  | _ => none }
def quotaBoundsRow : OpenClaim := { program := "ytbhbilmpkgcmeaa", sum := "d6bd719e894f479744cb94916d1dcfc6fa38e534676127ffc7b6139374cb2136", func := "headgate/headgatelaw36.QuotaBounds", spec := "quotaBounds", inPlace := ["slices.overlaps[headgate/api.Account]"], unfollowed := true, recurses := true, apart := false }
def QuotaBoundsSaid : Prop := quotaBoundsRow.holds Try.pinned (OpenSpec.ofChange quotaBoundsSpec)

/-- ITS FALSE NEIGHBOUR: 'it returns false'. Refute it at one input. -/
def quotaBoundsWrong : ChangeSpec := { name := "quotaBounds", fn := fun _ => fun
  | [d1, d2] => { results := [.lit (.bool false)], args := [d1, d2] }
  | _ => none }
def QuotaBoundsWrongFalsely : Prop := quotaBoundsRow.holds Try.pinned (OpenSpec.ofChange quotaBoundsWrong)

/-- 'headgatelaw36.QuotaWaits': WHATEVER THE INPUT: true; the input reads as it did. -/
def quotaWaitsSpec : ChangeSpec := { name := "quotaWaits", fn := fun _ => fun
  | [d1, d2, d3, d4] => { results := [.lit (.bool true)], args := [d1, d2, d3, d4] }
  | _ => none }
def quotaWaitsRow : OpenClaim := { program := "ytbhbilmpkgcmeaa", sum := "d6bd719e894f479744cb94916d1dcfc6fa38e534676127ffc7b6139374cb2136", func := "headgate/headgatelaw36.QuotaWaits", spec := "quotaWaits", inPlace := ["slices.overlaps[headgate/api.Account]"], unfollowed := true, recurses := true, apart := false }
def QuotaWaitsSaid : Prop := quotaWaitsRow.holds Try.pinned (OpenSpec.ofChange quotaWaitsSpec)

/-- ITS FALSE NEIGHBOUR: 'it returns false'. Refute it at one input. -/
def quotaWaitsWrong : ChangeSpec := { name := "quotaWaits", fn := fun _ => fun
  | [d1, d2, d3, d4] => { results := [.lit (.bool false)], args := [d1, d2, d3, d4] }
  | _ => none }
def QuotaWaitsWrongFalsely : Prop := quotaWaitsRow.holds Try.pinned (OpenSpec.ofChange quotaWaitsWrong)

/-- 'headgatelaw36.QuotaApart': WHATEVER THE INPUT: true; the input reads as it did. -/
def quotaApartSpec : ChangeSpec := { name := "quotaApart", fn := fun _ => fun
  | [d1, d2, d3] => { results := [.lit (.bool true)], args := [d1, d2, d3] }
  | _ => none }
def quotaApartRow : OpenClaim := { program := "ytbhbilmpkgcmeaa", sum := "d6bd719e894f479744cb94916d1dcfc6fa38e534676127ffc7b6139374cb2136", func := "headgate/headgatelaw36.QuotaApart", spec := "quotaApart", inPlace := ["slices.overlaps[headgate/api.Account]"], unfollowed := true, recurses := true, apart := false }
def QuotaApartSaid : Prop := quotaApartRow.holds Try.pinned (OpenSpec.ofChange quotaApartSpec)

/-- ITS FALSE NEIGHBOUR: 'it returns false'. Refute it at one input. -/
def quotaApartWrong : ChangeSpec := { name := "quotaApart", fn := fun _ => fun
  | [d1, d2, d3] => { results := [.lit (.bool false)], args := [d1, d2, d3] }
  | _ => none }
def QuotaApartWrongFalsely : Prop := quotaApartRow.holds Try.pinned (OpenSpec.ofChange quotaApartWrong)

/- THE SECOND FORM. 'bulk': how many values and letters a reading holds, each counted each time it is reached (what is shared counts as often as it is met; a slice's spare places count too). A statement '..UptoSaid' is the law's where the arguments, and the package variables that the reading takes, are together of bulk at most 1048576: NARROWER than '..Said'. Prove '..Said' where nothing that the law and all that it calls make is longer than what came in: it says more and counts as full. Else prove '..UptoSaid'. A law counts once. -/
mutual
def uptoBulk {H : Type} : DataW H → Nat
  | .lit (.string bytes) => bytes.length + 1
  | .lit _ => 1
  | .nil => 1
  | .ptr d => uptoBulk d + 1
  | .slice elems spare => uptoBulkAll elems + uptoBulkAll spare + 1
  | .agg parts => uptoBulkAll parts + 1
  | .iface _ d => uptoBulk d + 1
  | .map entries => uptoBulkEntries entries + 1
  | .held _ => 1
def uptoBulkAll {H : Type} : List (DataW H) → Nat
  | [] => 0
  | d :: r => uptoBulk d + uptoBulkAll r
def uptoBulkEntries {H : Type} : List (Lit × DataW H) → Nat
  | [] => 0
  | x :: r => uptoBulkEntry x + uptoBulkEntries r
def uptoBulkEntry {H : Type} : Lit × DataW H → Nat
  | (.string bytes, d) => bytes.length + uptoBulk d + 1
  | (_, d) => uptoBulk d + 1
 end
def uptoSmall : (H : Type) → List (DataW H) → Bool := fun _ ds => decide (uptoBulkAll ds ≤ 1048576)
def OpenSpec.upto (s : _root_.Go.ChangeSpec) : _root_.Go.OpenSpec := { _root_.Go.OpenSpec.ofChange s with cond := some uptoSmall }

/-- 'headgatelaw03.FrameRows', WHERE WHAT IT READS IS OF BULK AT MOST 1048576: true; the input reads as it did. -/
def frameRowsUptoRow : OpenClaim := { program := "ytbhbilmpkgcmeaa", sum := "d6bd719e894f479744cb94916d1dcfc6fa38e534676127ffc7b6139374cb2136", func := "headgate/headgatelaw03.FrameRows", spec := "frameRows", inPlace := ["internal/abi.NoEscape"], unfollowed := true, recurses := true, apart := false, narrowed := true }
def FrameRowsUptoSaid : Prop := frameRowsUptoRow.holds Try.pinned (OpenSpec.upto frameRowsSpec)

/-- 'headgatelaw03.FrameTorn', WHERE WHAT IT READS IS OF BULK AT MOST 1048576: true; the input reads as it did. -/
def frameTornUptoRow : OpenClaim := { program := "ytbhbilmpkgcmeaa", sum := "d6bd719e894f479744cb94916d1dcfc6fa38e534676127ffc7b6139374cb2136", func := "headgate/headgatelaw03.FrameTorn", spec := "frameTorn", inPlace := ["internal/abi.NoEscape"], unfollowed := true, recurses := true, apart := false, narrowed := true }
def FrameTornUptoSaid : Prop := frameTornUptoRow.holds Try.pinned (OpenSpec.upto frameTornSpec)

/-- 'headgatelaw03.FrameEach', WHERE WHAT IT READS IS OF BULK AT MOST 1048576: true; the input reads as it did. -/
def frameEachUptoRow : OpenClaim := { program := "ytbhbilmpkgcmeaa", sum := "d6bd719e894f479744cb94916d1dcfc6fa38e534676127ffc7b6139374cb2136", func := "headgate/headgatelaw03.FrameEach", spec := "frameEach", inPlace := ["internal/abi.NoEscape"], unfollowed := true, recurses := true, apart := false, narrowed := true }
def FrameEachUptoSaid : Prop := frameEachUptoRow.holds Try.pinned (OpenSpec.upto frameEachSpec)

/-- 'headgatelaw29.SketchAdds', WHERE WHAT IT READS IS OF BULK AT MOST 1048576: true; the input reads as it did. -/
def sketchAddsUptoRow : OpenClaim := { program := "ytbhbilmpkgcmeaa", sum := "d6bd719e894f479744cb94916d1dcfc6fa38e534676127ffc7b6139374cb2136", func := "headgate/headgatelaw29.SketchAdds", spec := "sketchAdds", inPlace := ["slices.overlaps[headgate/api.Bucket]"], unfollowed := true, recurses := true, apart := false, narrowed := true }
def SketchAddsUptoSaid : Prop := sketchAddsUptoRow.holds Try.pinned (OpenSpec.upto sketchAddsSpec)

/-- 'headgatelaw29.SketchParts', WHERE WHAT IT READS IS OF BULK AT MOST 1048576: true; the input reads as it did. -/
def sketchPartsUptoRow : OpenClaim := { program := "ytbhbilmpkgcmeaa", sum := "d6bd719e894f479744cb94916d1dcfc6fa38e534676127ffc7b6139374cb2136", func := "headgate/headgatelaw29.SketchParts", spec := "sketchParts", inPlace := ["slices.overlaps[headgate/api.Bucket]"], unfollowed := true, recurses := true, apart := false, narrowed := true }
def SketchPartsUptoSaid : Prop := sketchPartsUptoRow.holds Try.pinned (OpenSpec.upto sketchPartsSpec)

/-- 'headgatelaw29.SketchTells', WHERE WHAT IT READS IS OF BULK AT MOST 1048576: true; the input reads as it did. -/
def sketchTellsUptoRow : OpenClaim := { program := "ytbhbilmpkgcmeaa", sum := "d6bd719e894f479744cb94916d1dcfc6fa38e534676127ffc7b6139374cb2136", func := "headgate/headgatelaw29.SketchTells", spec := "sketchTells", inPlace := ["slices.overlaps[headgate/api.Bucket]"], unfollowed := true, recurses := true, apart := false, narrowed := true }
def SketchTellsUptoSaid : Prop := sketchTellsUptoRow.holds Try.pinned (OpenSpec.upto sketchTellsSpec)

/-- 'headgatelaw36.QuotaTakes', WHERE WHAT IT READS IS OF BULK AT MOST 1048576: true; the input reads as it did. -/
def quotaTakesUptoRow : OpenClaim := { program := "ytbhbilmpkgcmeaa", sum := "d6bd719e894f479744cb94916d1dcfc6fa38e534676127ffc7b6139374cb2136", func := "headgate/headgatelaw36.QuotaTakes", spec := "quotaTakes", inPlace := ["slices.overlaps[headgate/api.Account]"], unfollowed := true, recurses := true, apart := false, narrowed := true }
def QuotaTakesUptoSaid : Prop := quotaTakesUptoRow.holds Try.pinned (OpenSpec.upto quotaTakesSpec)

/-- 'headgatelaw36.QuotaTrims', WHERE WHAT IT READS IS OF BULK AT MOST 1048576: true; the input reads as it did. -/
def quotaTrimsUptoRow : OpenClaim := { program := "ytbhbilmpkgcmeaa", sum := "d6bd719e894f479744cb94916d1dcfc6fa38e534676127ffc7b6139374cb2136", func := "headgate/headgatelaw36.QuotaTrims", spec := "quotaTrims", inPlace := ["slices.overlaps[headgate/api.Account]"], unfollowed := true, recurses := true, apart := false, narrowed := true }
def QuotaTrimsUptoSaid : Prop := quotaTrimsUptoRow.holds Try.pinned (OpenSpec.upto quotaTrimsSpec)

/-- 'headgatelaw36.QuotaBounds', WHERE WHAT IT READS IS OF BULK AT MOST 1048576: true; the input reads as it did. -/
def quotaBoundsUptoRow : OpenClaim := { program := "ytbhbilmpkgcmeaa", sum := "d6bd719e894f479744cb94916d1dcfc6fa38e534676127ffc7b6139374cb2136", func := "headgate/headgatelaw36.QuotaBounds", spec := "quotaBounds", inPlace := ["slices.overlaps[headgate/api.Account]"], unfollowed := true, recurses := true, apart := false, narrowed := true }
def QuotaBoundsUptoSaid : Prop := quotaBoundsUptoRow.holds Try.pinned (OpenSpec.upto quotaBoundsSpec)

/-- 'headgatelaw36.QuotaWaits', WHERE WHAT IT READS IS OF BULK AT MOST 1048576: true; the input reads as it did. -/
def quotaWaitsUptoRow : OpenClaim := { program := "ytbhbilmpkgcmeaa", sum := "d6bd719e894f479744cb94916d1dcfc6fa38e534676127ffc7b6139374cb2136", func := "headgate/headgatelaw36.QuotaWaits", spec := "quotaWaits", inPlace := ["slices.overlaps[headgate/api.Account]"], unfollowed := true, recurses := true, apart := false, narrowed := true }
def QuotaWaitsUptoSaid : Prop := quotaWaitsUptoRow.holds Try.pinned (OpenSpec.upto quotaWaitsSpec)

/-- 'headgatelaw36.QuotaApart', WHERE WHAT IT READS IS OF BULK AT MOST 1048576: true; the input reads as it did. -/
def quotaApartUptoRow : OpenClaim := { program := "ytbhbilmpkgcmeaa", sum := "d6bd719e894f479744cb94916d1dcfc6fa38e534676127ffc7b6139374cb2136", func := "headgate/headgatelaw36.QuotaApart", spec := "quotaApart", inPlace := ["slices.overlaps[headgate/api.Account]"], unfollowed := true, recurses := true, apart := false, narrowed := true }
def QuotaApartUptoSaid : Prop := quotaApartUptoRow.holds Try.pinned (OpenSpec.upto quotaApartSpec)

end Rows
end Go.Proofs.Ytbhbilmpkgcmeaa
