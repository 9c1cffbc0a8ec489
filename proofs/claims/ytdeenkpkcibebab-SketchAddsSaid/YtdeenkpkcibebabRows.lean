/-
  No cell of these rows narrows 'for every input' (looked for: loops, veiled, ifaces, maps, wideKeys, modest, calm, conditions, laid).
  DERIVED. THE GIVEN ROWS OF THIS SEAT. 13 by the template 'for every input the law returns true; each argument reads behind the call as it read before'; 0 by the template 'total and deterministic' (their statements: YtdeenkpkcibebabTotals.lean).
  GIVEN WITH THE SEED: the statements are not yours to turn. If you find one false, say at which input.
  Laid BY PROGRAM, IN A SANDBOX (cutbox-rows.mjs): the forced cells as the released guide's own fill.sh prints them over the translation 4c1d9aee3eb5f602… (all of the seat's roots in one cut). By AI agents, Wed Nov 11 2026. No macro, syntax, notation, axiom, sorry.
-/
import Derived.Test.YtdeenkpkcibebabChecked
import GoSem.Claim
import GoSem.ClaimJoined
import GoSem.ClaimMapViews
import Derived.JoinedTies
import Derived.KernelRfl
namespace Go.Proofs.Ytdeenkpkcibebab
/- THE CELL 'sum', in the pinned program and in every row, IS THE sha256 OF THE DUMP (.gsa) THAT YtdeenkpkcibebabProg.lean LOADS. Nothing in Lean hashes anything: it is a label: what it is worth is what the hold of that sum in a sandbox is worth. -/
noncomputable def Try.pinned : Pinned := { name := "ytdeenkpkcibebab", sum := "4c1d9aee3eb5f6023b2f60c597b7d9c157606f7d899d455b2a72a6fa78f2f571", checked := Try.checked }
namespace Rows
def none {H : Type} : Left H := { results := [], args := [] }

/-- 'headgatelaw29.SketchOf': WHATEVER THE INPUT: true; the input reads as it did. -/
def sketchOfSpec : ChangeSpec := { name := "sketchOf", fn := fun _ => fun
  | [d1, d2] => { results := [.lit (.bool true)], args := [d1, d2] }
  | _ => none }
def sketchOfRow : OpenClaim := { program := "ytdeenkpkcibebab", sum := "4c1d9aee3eb5f6023b2f60c597b7d9c157606f7d899d455b2a72a6fa78f2f571", func := "headgate/headgatelaw29.SketchOf", spec := "sketchOf", recurses := true, apart := false }
def SketchOfSaid : Prop := sketchOfRow.holds Try.pinned (OpenSpec.ofChange sketchOfSpec)

/-- ITS FALSE NEIGHBOUR: 'it returns false'. Refute it at one input. -/
def sketchOfWrong : ChangeSpec := { name := "sketchOf", fn := fun _ => fun
  | [d1, d2] => { results := [.lit (.bool false)], args := [d1, d2] }
  | _ => none }
def SketchOfWrongFalsely : Prop := sketchOfRow.holds Try.pinned (OpenSpec.ofChange sketchOfWrong)

/-- 'headgatelaw29.SketchEnds': WHATEVER THE INPUT: true; the input reads as it did. -/
def sketchEndsSpec : ChangeSpec := { name := "sketchEnds", fn := fun _ => fun
  | [d1, d2] => { results := [.lit (.bool true)], args := [d1, d2] }
  | _ => none }
def sketchEndsRow : OpenClaim := { program := "ytdeenkpkcibebab", sum := "4c1d9aee3eb5f6023b2f60c597b7d9c157606f7d899d455b2a72a6fa78f2f571", func := "headgate/headgatelaw29.SketchEnds", spec := "sketchEnds", recurses := true, apart := false }
def SketchEndsSaid : Prop := sketchEndsRow.holds Try.pinned (OpenSpec.ofChange sketchEndsSpec)

/-- ITS FALSE NEIGHBOUR: 'it returns false'. Refute it at one input. -/
def sketchEndsWrong : ChangeSpec := { name := "sketchEnds", fn := fun _ => fun
  | [d1, d2] => { results := [.lit (.bool false)], args := [d1, d2] }
  | _ => none }
def SketchEndsWrongFalsely : Prop := sketchEndsRow.holds Try.pinned (OpenSpec.ofChange sketchEndsWrong)

/-- 'headgatelaw29.SketchAdds': WHATEVER THE INPUT: true; the input reads as it did. -/
def sketchAddsSpec : ChangeSpec := { name := "sketchAdds", fn := fun _ => fun
  | [d1, d2] => { results := [.lit (.bool true)], args := [d1, d2] }
  | _ => none }
def sketchAddsRow : OpenClaim := { program := "ytdeenkpkcibebab", sum := "4c1d9aee3eb5f6023b2f60c597b7d9c157606f7d899d455b2a72a6fa78f2f571", func := "headgate/headgatelaw29.SketchAdds", spec := "sketchAdds", inPlace := ["slices.overlaps[headgate/api.Bucket]"], unfollowed := true, recurses := true, apart := false }
def SketchAddsSaid : Prop := sketchAddsRow.holds Try.pinned (OpenSpec.ofChange sketchAddsSpec)

/-- ITS FALSE NEIGHBOUR: 'it returns false'. Refute it at one input. -/
def sketchAddsWrong : ChangeSpec := { name := "sketchAdds", fn := fun _ => fun
  | [d1, d2] => { results := [.lit (.bool false)], args := [d1, d2] }
  | _ => none }
def SketchAddsWrongFalsely : Prop := sketchAddsRow.holds Try.pinned (OpenSpec.ofChange sketchAddsWrong)

/-- 'headgatelaw29.SketchMerges': WHATEVER THE INPUT: true; the input reads as it did. -/
def sketchMergesSpec : ChangeSpec := { name := "sketchMerges", fn := fun _ => fun
  | [d1, d2] => { results := [.lit (.bool true)], args := [d1, d2] }
  | _ => none }
def sketchMergesRow : OpenClaim := { program := "ytdeenkpkcibebab", sum := "4c1d9aee3eb5f6023b2f60c597b7d9c157606f7d899d455b2a72a6fa78f2f571", func := "headgate/headgatelaw29.SketchMerges", spec := "sketchMerges", inPlace := ["slices.overlaps[headgate/api.Bucket]"], unfollowed := true, recurses := true, apart := false }
def SketchMergesSaid : Prop := sketchMergesRow.holds Try.pinned (OpenSpec.ofChange sketchMergesSpec)

/-- ITS FALSE NEIGHBOUR: 'it returns false'. Refute it at one input. -/
def sketchMergesWrong : ChangeSpec := { name := "sketchMerges", fn := fun _ => fun
  | [d1, d2] => { results := [.lit (.bool false)], args := [d1, d2] }
  | _ => none }
def SketchMergesWrongFalsely : Prop := sketchMergesRow.holds Try.pinned (OpenSpec.ofChange sketchMergesWrong)

/-- 'headgatelaw29.SketchParts': WHATEVER THE INPUT: true; the input reads as it did. -/
def sketchPartsSpec : ChangeSpec := { name := "sketchParts", fn := fun _ => fun
  | [d1, d2] => { results := [.lit (.bool true)], args := [d1, d2] }
  | _ => none }
def sketchPartsRow : OpenClaim := { program := "ytdeenkpkcibebab", sum := "4c1d9aee3eb5f6023b2f60c597b7d9c157606f7d899d455b2a72a6fa78f2f571", func := "headgate/headgatelaw29.SketchParts", spec := "sketchParts", inPlace := ["slices.overlaps[headgate/api.Bucket]"], unfollowed := true, recurses := true, apart := false }
def SketchPartsSaid : Prop := sketchPartsRow.holds Try.pinned (OpenSpec.ofChange sketchPartsSpec)

/-- ITS FALSE NEIGHBOUR: 'it returns false'. Refute it at one input. -/
def sketchPartsWrong : ChangeSpec := { name := "sketchParts", fn := fun _ => fun
  | [d1, d2] => { results := [.lit (.bool false)], args := [d1, d2] }
  | _ => none }
def SketchPartsWrongFalsely : Prop := sketchPartsRow.holds Try.pinned (OpenSpec.ofChange sketchPartsWrong)

/-- 'headgatelaw29.SketchQuantiles': WHATEVER THE INPUT: true; the input reads as it did. -/
def sketchQuantilesSpec : ChangeSpec := { name := "sketchQuantiles", fn := fun _ => fun
  | [d1, d2, d3] => { results := [.lit (.bool true)], args := [d1, d2, d3] }
  | _ => none }
def sketchQuantilesRow : OpenClaim := { program := "ytdeenkpkcibebab", sum := "4c1d9aee3eb5f6023b2f60c597b7d9c157606f7d899d455b2a72a6fa78f2f571", func := "headgate/headgatelaw29.SketchQuantiles", spec := "sketchQuantiles", recurses := true, apart := false }
def SketchQuantilesSaid : Prop := sketchQuantilesRow.holds Try.pinned (OpenSpec.ofChange sketchQuantilesSpec)

/-- ITS FALSE NEIGHBOUR: 'it returns false'. Refute it at one input. -/
def sketchQuantilesWrong : ChangeSpec := { name := "sketchQuantiles", fn := fun _ => fun
  | [d1, d2, d3] => { results := [.lit (.bool false)], args := [d1, d2, d3] }
  | _ => none }
def SketchQuantilesWrongFalsely : Prop := sketchQuantilesRow.holds Try.pinned (OpenSpec.ofChange sketchQuantilesWrong)

/-- 'headgatelaw29.SketchTells': WHATEVER THE INPUT: true; the input reads as it did. -/
def sketchTellsSpec : ChangeSpec := { name := "sketchTells", fn := fun _ => fun
  | [d1, d2, d3] => { results := [.lit (.bool true)], args := [d1, d2, d3] }
  | _ => none }
def sketchTellsRow : OpenClaim := { program := "ytdeenkpkcibebab", sum := "4c1d9aee3eb5f6023b2f60c597b7d9c157606f7d899d455b2a72a6fa78f2f571", func := "headgate/headgatelaw29.SketchTells", spec := "sketchTells", inPlace := ["slices.overlaps[headgate/api.Bucket]"], unfollowed := true, recurses := true, apart := false }
def SketchTellsSaid : Prop := sketchTellsRow.holds Try.pinned (OpenSpec.ofChange sketchTellsSpec)

/-- ITS FALSE NEIGHBOUR: 'it returns false'. Refute it at one input. -/
def sketchTellsWrong : ChangeSpec := { name := "sketchTells", fn := fun _ => fun
  | [d1, d2, d3] => { results := [.lit (.bool false)], args := [d1, d2, d3] }
  | _ => none }
def SketchTellsWrongFalsely : Prop := sketchTellsRow.holds Try.pinned (OpenSpec.ofChange sketchTellsWrong)

/-- 'headgatelaw29.SketchCodes': WHATEVER THE INPUT: true; the input reads as it did. -/
def sketchCodesSpec : ChangeSpec := { name := "sketchCodes", fn := fun _ => fun
  | [d1, d2] => { results := [.lit (.bool true)], args := [d1, d2] }
  | _ => none }
def sketchCodesRow : OpenClaim := { program := "ytdeenkpkcibebab", sum := "4c1d9aee3eb5f6023b2f60c597b7d9c157606f7d899d455b2a72a6fa78f2f571", func := "headgate/headgatelaw29.SketchCodes", spec := "sketchCodes", inPlace := ["internal/abi.NoEscape"], recurses := true, apart := false }
def SketchCodesSaid : Prop := sketchCodesRow.holds Try.pinned (OpenSpec.ofChange sketchCodesSpec)

/-- ITS FALSE NEIGHBOUR: 'it returns false'. Refute it at one input. -/
def sketchCodesWrong : ChangeSpec := { name := "sketchCodes", fn := fun _ => fun
  | [d1, d2] => { results := [.lit (.bool false)], args := [d1, d2] }
  | _ => none }
def SketchCodesWrongFalsely : Prop := sketchCodesRow.holds Try.pinned (OpenSpec.ofChange sketchCodesWrong)

/-- 'headgatelaw36.QuotaTakes': WHATEVER THE INPUT: true; the input reads as it did. -/
def quotaTakesSpec : ChangeSpec := { name := "quotaTakes", fn := fun _ => fun
  | [d1, d2, d3, d4, d5] => { results := [.lit (.bool true)], args := [d1, d2, d3, d4, d5] }
  | _ => none }
def quotaTakesRow : OpenClaim := { program := "ytdeenkpkcibebab", sum := "4c1d9aee3eb5f6023b2f60c597b7d9c157606f7d899d455b2a72a6fa78f2f571", func := "headgate/headgatelaw36.QuotaTakes", spec := "quotaTakes", inPlace := ["slices.overlaps[headgate/api.Account]"], unfollowed := true, recurses := true, apart := false }
def QuotaTakesSaid : Prop := quotaTakesRow.holds Try.pinned (OpenSpec.ofChange quotaTakesSpec)

/-- ITS FALSE NEIGHBOUR: 'it returns false'. Refute it at one input. -/
def quotaTakesWrong : ChangeSpec := { name := "quotaTakes", fn := fun _ => fun
  | [d1, d2, d3, d4, d5] => { results := [.lit (.bool false)], args := [d1, d2, d3, d4, d5] }
  | _ => none }
def QuotaTakesWrongFalsely : Prop := quotaTakesRow.holds Try.pinned (OpenSpec.ofChange quotaTakesWrong)

/-- 'headgatelaw36.QuotaTrims': WHATEVER THE INPUT: true; the input reads as it did. -/
def quotaTrimsSpec : ChangeSpec := { name := "quotaTrims", fn := fun _ => fun
  | [d1, d2, d3, d4, d5] => { results := [.lit (.bool true)], args := [d1, d2, d3, d4, d5] }
  | _ => none }
def quotaTrimsRow : OpenClaim := { program := "ytdeenkpkcibebab", sum := "4c1d9aee3eb5f6023b2f60c597b7d9c157606f7d899d455b2a72a6fa78f2f571", func := "headgate/headgatelaw36.QuotaTrims", spec := "quotaTrims", inPlace := ["slices.overlaps[headgate/api.Account]"], unfollowed := true, recurses := true, apart := false }
def QuotaTrimsSaid : Prop := quotaTrimsRow.holds Try.pinned (OpenSpec.ofChange quotaTrimsSpec)

/-- ITS FALSE NEIGHBOUR: 'it returns false'. Refute it at one input. -/
def quotaTrimsWrong : ChangeSpec := { name := "quotaTrims", fn := fun _ => fun
  | [d1, d2, d3, d4, d5] => { results := [.lit (.bool false)], args := [d1, d2, d3, d4, d5] }
  | _ => none }
def QuotaTrimsWrongFalsely : Prop := quotaTrimsRow.holds Try.pinned (OpenSpec.ofChange quotaTrimsWrong)

/-- 'headgatelaw36.QuotaBounds': WHATEVER THE INPUT: true; the input reads as it did. -/
def quotaBoundsSpec : ChangeSpec := { name := "quotaBounds", fn := fun _ => fun
  | [d1, d2] => { results := [.lit (.bool true)], args := [d1, d2] }
  | _ => none }
def quotaBoundsRow : OpenClaim := { program := "ytdeenkpkcibebab", sum := "4c1d9aee3eb5f6023b2f60c597b7d9c157606f7d899d455b2a72a6fa78f2f571", func := "headgate/headgatelaw36.QuotaBounds", spec := "quotaBounds", inPlace := ["slices.overlaps[headgate/api.Account]"], unfollowed := true, recurses := true, apart := false }
def QuotaBoundsSaid : Prop := quotaBoundsRow.holds Try.pinned (OpenSpec.ofChange quotaBoundsSpec)

/-- ITS FALSE NEIGHBOUR: 'it returns false'. Refute it at one input. -/
def quotaBoundsWrong : ChangeSpec := { name := "quotaBounds", fn := fun _ => fun
  | [d1, d2] => { results := [.lit (.bool false)], args := [d1, d2] }
  | _ => none }
def QuotaBoundsWrongFalsely : Prop := quotaBoundsRow.holds Try.pinned (OpenSpec.ofChange quotaBoundsWrong)

/-- 'headgatelaw36.QuotaWaits': WHATEVER THE INPUT: true; the input reads as it did. -/
def quotaWaitsSpec : ChangeSpec := { name := "quotaWaits", fn := fun _ => fun
  | [d1, d2, d3, d4] => { results := [.lit (.bool true)], args := [d1, d2, d3, d4] }
  | _ => none }
def quotaWaitsRow : OpenClaim := { program := "ytdeenkpkcibebab", sum := "4c1d9aee3eb5f6023b2f60c597b7d9c157606f7d899d455b2a72a6fa78f2f571", func := "headgate/headgatelaw36.QuotaWaits", spec := "quotaWaits", inPlace := ["slices.overlaps[headgate/api.Account]"], unfollowed := true, recurses := true, apart := false }
def QuotaWaitsSaid : Prop := quotaWaitsRow.holds Try.pinned (OpenSpec.ofChange quotaWaitsSpec)

/-- ITS FALSE NEIGHBOUR: 'it returns false'. Refute it at one input. -/
def quotaWaitsWrong : ChangeSpec := { name := "quotaWaits", fn := fun _ => fun
  | [d1, d2, d3, d4] => { results := [.lit (.bool false)], args := [d1, d2, d3, d4] }
  | _ => none }
def QuotaWaitsWrongFalsely : Prop := quotaWaitsRow.holds Try.pinned (OpenSpec.ofChange quotaWaitsWrong)

/-- 'headgatelaw36.QuotaApart': WHATEVER THE INPUT: true; the input reads as it did. -/
def quotaApartSpec : ChangeSpec := { name := "quotaApart", fn := fun _ => fun
  | [d1, d2, d3] => { results := [.lit (.bool true)], args := [d1, d2, d3] }
  | _ => none }
def quotaApartRow : OpenClaim := { program := "ytdeenkpkcibebab", sum := "4c1d9aee3eb5f6023b2f60c597b7d9c157606f7d899d455b2a72a6fa78f2f571", func := "headgate/headgatelaw36.QuotaApart", spec := "quotaApart", inPlace := ["slices.overlaps[headgate/api.Account]"], unfollowed := true, recurses := true, apart := false }
def QuotaApartSaid : Prop := quotaApartRow.holds Try.pinned (OpenSpec.ofChange quotaApartSpec)

/-- ITS FALSE NEIGHBOUR: 'it returns false'. Refute it at one input. -/
def quotaApartWrong : ChangeSpec := { name := "quotaApart", fn := fun _ => fun
  | [d1, d2, d3] => { results := [.lit (.bool false)], args := [d1, d2, d3] }
  | _ => none }
def QuotaApartWrongFalsely : Prop := quotaApartRow.holds Try.pinned (OpenSpec.ofChange quotaApartWrong)

/- THE SECOND FORM. 'bulk': how many values and letters a reading holds, each counted each time it is reached (what is shared counts as often as it is met; a slice's spare places count too). A statement '..UptoSaid' is the law's where the arguments, and the package variables that the reading takes, are together of bulk at most 1048576: NARROWER than '..Said'. Prove '..Said' where nothing that the law and all that it calls make is longer than what came in: it says more and counts as full. Else prove '..UptoSaid'. A law counts once. -/
mutual
def uptoBulk {H : Type} : DataW H → Nat
  | .lit (.string bytes) => bytes.length + 1
  | .lit _ => 1
  | .nil => 1
  | .ptr d => uptoBulk d + 1
  | .slice elems spare => uptoBulkAll elems + uptoBulkAll spare + 1
  | .agg parts => uptoBulkAll parts + 1
  | .iface _ d => uptoBulk d + 1
  | .map entries => uptoBulkEntries entries + 1
  | .held _ => 1
def uptoBulkAll {H : Type} : List (DataW H) → Nat
  | [] => 0
  | d :: r => uptoBulk d + uptoBulkAll r
def uptoBulkEntries {H : Type} : List (Lit × DataW H) → Nat
  | [] => 0
  | x :: r => uptoBulkEntry x + uptoBulkEntries r
def uptoBulkEntry {H : Type} : Lit × DataW H → Nat
  | (.string bytes, d) => bytes.length + uptoBulk d + 1
  | (_, d) => uptoBulk d + 1
 end
def uptoSmall : (H : Type) → List (DataW H) → Bool := fun _ ds => decide (uptoBulkAll ds ≤ 1048576)
def OpenSpec.upto (s : _root_.Go.ChangeSpec) : _root_.Go.OpenSpec := { _root_.Go.OpenSpec.ofChange s with cond := some uptoSmall }

/-- 'headgatelaw29.SketchOf', WHERE WHAT IT READS IS OF BULK AT MOST 1048576: true; the input reads as it did. -/
def sketchOfUptoRow : OpenClaim := { program := "ytdeenkpkcibebab", sum := "4c1d9aee3eb5f6023b2f60c597b7d9c157606f7d899d455b2a72a6fa78f2f571", func := "headgate/headgatelaw29.SketchOf", spec := "sketchOf", recurses := true, apart := false, narrowed := true }
def SketchOfUptoSaid : Prop := sketchOfUptoRow.holds Try.pinned (OpenSpec.upto sketchOfSpec)

/-- 'headgatelaw29.SketchEnds', WHERE WHAT IT READS IS OF BULK AT MOST 1048576: true; the input reads as it did. -/
def sketchEndsUptoRow : OpenClaim := { program := "ytdeenkpkcibebab", sum := "4c1d9aee3eb5f6023b2f60c597b7d9c157606f7d899d455b2a72a6fa78f2f571", func := "headgate/headgatelaw29.SketchEnds", spec := "sketchEnds", recurses := true, apart := false, narrowed := true }
def SketchEndsUptoSaid : Prop := sketchEndsUptoRow.holds Try.pinned (OpenSpec.upto sketchEndsSpec)

/-- 'headgatelaw29.SketchAdds', WHERE WHAT IT READS IS OF BULK AT MOST 1048576: true; the input reads as it did. -/
def sketchAddsUptoRow : OpenClaim := { program := "ytdeenkpkcibebab", sum := "4c1d9aee3eb5f6023b2f60c597b7d9c157606f7d899d455b2a72a6fa78f2f571", func := "headgate/headgatelaw29.SketchAdds", spec := "sketchAdds", inPlace := ["slices.overlaps[headgate/api.Bucket]"], unfollowed := true, recurses := true, apart := false, narrowed := true }
def SketchAddsUptoSaid : Prop := sketchAddsUptoRow.holds Try.pinned (OpenSpec.upto sketchAddsSpec)

/-- 'headgatelaw29.SketchMerges', WHERE WHAT IT READS IS OF BULK AT MOST 1048576: true; the input reads as it did. -/
def sketchMergesUptoRow : OpenClaim := { program := "ytdeenkpkcibebab", sum := "4c1d9aee3eb5f6023b2f60c597b7d9c157606f7d899d455b2a72a6fa78f2f571", func := "headgate/headgatelaw29.SketchMerges", spec := "sketchMerges", inPlace := ["slices.overlaps[headgate/api.Bucket]"], unfollowed := true, recurses := true, apart := false, narrowed := true }
def SketchMergesUptoSaid : Prop := sketchMergesUptoRow.holds Try.pinned (OpenSpec.upto sketchMergesSpec)

/-- 'headgatelaw29.SketchParts', WHERE WHAT IT READS IS OF BULK AT MOST 1048576: true; the input reads as it did. -/
def sketchPartsUptoRow : OpenClaim := { program := "ytdeenkpkcibebab", sum := "4c1d9aee3eb5f6023b2f60c597b7d9c157606f7d899d455b2a72a6fa78f2f571", func := "headgate/headgatelaw29.SketchParts", spec := "sketchParts", inPlace := ["slices.overlaps[headgate/api.Bucket]"], unfollowed := true, recurses := true, apart := false, narrowed := true }
def SketchPartsUptoSaid : Prop := sketchPartsUptoRow.holds Try.pinned (OpenSpec.upto sketchPartsSpec)

/-- 'headgatelaw29.SketchQuantiles', WHERE WHAT IT READS IS OF BULK AT MOST 1048576: true; the input reads as it did. -/
def sketchQuantilesUptoRow : OpenClaim := { program := "ytdeenkpkcibebab", sum := "4c1d9aee3eb5f6023b2f60c597b7d9c157606f7d899d455b2a72a6fa78f2f571", func := "headgate/headgatelaw29.SketchQuantiles", spec := "sketchQuantiles", recurses := true, apart := false, narrowed := true }
def SketchQuantilesUptoSaid : Prop := sketchQuantilesUptoRow.holds Try.pinned (OpenSpec.upto sketchQuantilesSpec)

/-- 'headgatelaw29.SketchTells', WHERE WHAT IT READS IS OF BULK AT MOST 1048576: true; the input reads as it did. -/
def sketchTellsUptoRow : OpenClaim := { program := "ytdeenkpkcibebab", sum := "4c1d9aee3eb5f6023b2f60c597b7d9c157606f7d899d455b2a72a6fa78f2f571", func := "headgate/headgatelaw29.SketchTells", spec := "sketchTells", inPlace := ["slices.overlaps[headgate/api.Bucket]"], unfollowed := true, recurses := true, apart := false, narrowed := true }
def SketchTellsUptoSaid : Prop := sketchTellsUptoRow.holds Try.pinned (OpenSpec.upto sketchTellsSpec)

/-- 'headgatelaw29.SketchCodes', WHERE WHAT IT READS IS OF BULK AT MOST 1048576: true; the input reads as it did. -/
def sketchCodesUptoRow : OpenClaim := { program := "ytdeenkpkcibebab", sum := "4c1d9aee3eb5f6023b2f60c597b7d9c157606f7d899d455b2a72a6fa78f2f571", func := "headgate/headgatelaw29.SketchCodes", spec := "sketchCodes", inPlace := ["internal/abi.NoEscape"], recurses := true, apart := false, narrowed := true }
def SketchCodesUptoSaid : Prop := sketchCodesUptoRow.holds Try.pinned (OpenSpec.upto sketchCodesSpec)

/-- 'headgatelaw36.QuotaTakes', WHERE WHAT IT READS IS OF BULK AT MOST 1048576: true; the input reads as it did. -/
def quotaTakesUptoRow : OpenClaim := { program := "ytdeenkpkcibebab", sum := "4c1d9aee3eb5f6023b2f60c597b7d9c157606f7d899d455b2a72a6fa78f2f571", func := "headgate/headgatelaw36.QuotaTakes", spec := "quotaTakes", inPlace := ["slices.overlaps[headgate/api.Account]"], unfollowed := true, recurses := true, apart := false, narrowed := true }
def QuotaTakesUptoSaid : Prop := quotaTakesUptoRow.holds Try.pinned (OpenSpec.upto quotaTakesSpec)

/-- 'headgatelaw36.QuotaTrims', WHERE WHAT IT READS IS OF BULK AT MOST 1048576: true; the input reads as it did. -/
def quotaTrimsUptoRow : OpenClaim := { program := "ytdeenkpkcibebab", sum := "4c1d9aee3eb5f6023b2f60c597b7d9c157606f7d899d455b2a72a6fa78f2f571", func := "headgate/headgatelaw36.QuotaTrims", spec := "quotaTrims", inPlace := ["slices.overlaps[headgate/api.Account]"], unfollowed := true, recurses := true, apart := false, narrowed := true }
def QuotaTrimsUptoSaid : Prop := quotaTrimsUptoRow.holds Try.pinned (OpenSpec.upto quotaTrimsSpec)

/-- 'headgatelaw36.QuotaBounds', WHERE WHAT IT READS IS OF BULK AT MOST 1048576: true; the input reads as it did. -/
def quotaBoundsUptoRow : OpenClaim := { program := "ytdeenkpkcibebab", sum := "4c1d9aee3eb5f6023b2f60c597b7d9c157606f7d899d455b2a72a6fa78f2f571", func := "headgate/headgatelaw36.QuotaBounds", spec := "quotaBounds", inPlace := ["slices.overlaps[headgate/api.Account]"], unfollowed := true, recurses := true, apart := false, narrowed := true }
def QuotaBoundsUptoSaid : Prop := quotaBoundsUptoRow.holds Try.pinned (OpenSpec.upto quotaBoundsSpec)

/-- 'headgatelaw36.QuotaWaits', WHERE WHAT IT READS IS OF BULK AT MOST 1048576: true; the input reads as it did. -/
def quotaWaitsUptoRow : OpenClaim := { program := "ytdeenkpkcibebab", sum := "4c1d9aee3eb5f6023b2f60c597b7d9c157606f7d899d455b2a72a6fa78f2f571", func := "headgate/headgatelaw36.QuotaWaits", spec := "quotaWaits", inPlace := ["slices.overlaps[headgate/api.Account]"], unfollowed := true, recurses := true, apart := false, narrowed := true }
def QuotaWaitsUptoSaid : Prop := quotaWaitsUptoRow.holds Try.pinned (OpenSpec.upto quotaWaitsSpec)

/-- 'headgatelaw36.QuotaApart', WHERE WHAT IT READS IS OF BULK AT MOST 1048576: true; the input reads as it did. -/
def quotaApartUptoRow : OpenClaim := { program := "ytdeenkpkcibebab", sum := "4c1d9aee3eb5f6023b2f60c597b7d9c157606f7d899d455b2a72a6fa78f2f571", func := "headgate/headgatelaw36.QuotaApart", spec := "quotaApart", inPlace := ["slices.overlaps[headgate/api.Account]"], unfollowed := true, recurses := true, apart := false, narrowed := true }
def QuotaApartUptoSaid : Prop := quotaApartUptoRow.holds Try.pinned (OpenSpec.upto quotaApartSpec)

end Rows
end Go.Proofs.Ytdeenkpkcibebab
