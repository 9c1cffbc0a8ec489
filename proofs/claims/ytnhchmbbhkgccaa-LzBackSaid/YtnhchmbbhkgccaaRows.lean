/-
  No cell of these rows narrows 'for every input' (looked for: loops, veiled, ifaces, maps, wideKeys, modest, calm, conditions, laid).
  DERIVED. THE GIVEN ROWS OF THIS SEAT. 6 by the template 'for every input the law returns true; each argument reads behind the call as it read before'; 0 by the template 'total and deterministic' (their statements: YtnhchmbbhkgccaaTotals.lean).
  GIVEN WITH THE SEED: the statements are not yours to turn. If you find one false, say at which input.
  Laid BY PROGRAM, IN A SANDBOX (cutbox-rows.mjs): the forced cells as the released guide's own fill.sh prints them over the translation 0c42693622f04bb6… (all of the seat's roots in one cut). By AI agents, Wed Nov 11 2026. No macro, syntax, notation, axiom, sorry.
-/
import Derived.Test.YtnhchmbbhkgccaaChecked
import GoSem.Claim
import GoSem.ClaimJoined
import GoSem.ClaimMapViews
import Derived.JoinedTies
import Derived.KernelRfl
namespace Go.Proofs.Ytnhchmbbhkgccaa
/- THE CELL 'sum', in the pinned program and in every row, IS THE sha256 OF THE DUMP (.gsa) THAT YtnhchmbbhkgccaaProg.lean LOADS. Nothing in Lean hashes anything: it is a label: what it is worth is what the hold of that sum in a sandbox is worth. -/
noncomputable def Try.pinned : Pinned := { name := "ytnhchmbbhkgccaa", sum := "0c42693622f04bb610f13fec7f35ac9fa614300366ea80f4b90c3a9ba4f47570", checked := Try.checked }
namespace Rows
def none {H : Type} : Left H := { results := [], args := [] }

/-- 'headgatelaw32.LzUnpacks': WHATEVER THE INPUT: true; the input reads as it did. -/
def lzUnpacksSpec : ChangeSpec := { name := "lzUnpacks", fn := fun _ => fun
  | [d1, d2] => { results := [.lit (.bool true)], args := [d1, d2] }
  | _ => none }
def lzUnpacksRow : OpenClaim := { program := "ytnhchmbbhkgccaa", sum := "0c42693622f04bb610f13fec7f35ac9fa614300366ea80f4b90c3a9ba4f47570", func := "headgate/headgatelaw32.LzUnpacks", spec := "lzUnpacks", inPlace := ["internal/abi.NoEscape"], plainKeys := false, apart := false }
def LzUnpacksSaid : Prop := lzUnpacksRow.holds Try.pinned (OpenSpec.ofChange lzUnpacksSpec)

/-- ITS FALSE NEIGHBOUR: 'it returns false'. Refute it at one input. -/
def lzUnpacksWrong : ChangeSpec := { name := "lzUnpacks", fn := fun _ => fun
  | [d1, d2] => { results := [.lit (.bool false)], args := [d1, d2] }
  | _ => none }
def LzUnpacksWrongFalsely : Prop := lzUnpacksRow.holds Try.pinned (OpenSpec.ofChange lzUnpacksWrong)

/-- 'headgatelaw32.LzBack': WHATEVER THE INPUT: true; the input reads as it did. -/
def lzBackSpec : ChangeSpec := { name := "lzBack", fn := fun _ => fun
  | [d] => { results := [.lit (.bool true)], args := [d] }
  | _ => none }
def lzBackRow : OpenClaim := { program := "ytnhchmbbhkgccaa", sum := "0c42693622f04bb610f13fec7f35ac9fa614300366ea80f4b90c3a9ba4f47570", func := "headgate/headgatelaw32.LzBack", spec := "lzBack", inPlace := ["internal/abi.NoEscape"], plainKeys := false, apart := false }
def LzBackSaid : Prop := lzBackRow.holds Try.pinned (OpenSpec.ofChange lzBackSpec)

/-- ITS FALSE NEIGHBOUR: 'it returns false'. Refute it at one input. -/
def lzBackWrong : ChangeSpec := { name := "lzBack", fn := fun _ => fun
  | [d] => { results := [.lit (.bool false)], args := [d] }
  | _ => none }
def LzBackWrongFalsely : Prop := lzBackRow.holds Try.pinned (OpenSpec.ofChange lzBackWrong)

/-- 'headgatelaw32.LzShort': WHATEVER THE INPUT: true; the input reads as it did. -/
def lzShortSpec : ChangeSpec := { name := "lzShort", fn := fun _ => fun
  | [d] => { results := [.lit (.bool true)], args := [d] }
  | _ => none }
def lzShortRow : OpenClaim := { program := "ytnhchmbbhkgccaa", sum := "0c42693622f04bb610f13fec7f35ac9fa614300366ea80f4b90c3a9ba4f47570", func := "headgate/headgatelaw32.LzShort", spec := "lzShort", inPlace := ["internal/abi.NoEscape"], plainKeys := false, apart := false }
def LzShortSaid : Prop := lzShortRow.holds Try.pinned (OpenSpec.ofChange lzShortSpec)

/-- ITS FALSE NEIGHBOUR: 'it returns false'. Refute it at one input. -/
def lzShortWrong : ChangeSpec := { name := "lzShort", fn := fun _ => fun
  | [d] => { results := [.lit (.bool false)], args := [d] }
  | _ => none }
def LzShortWrongFalsely : Prop := lzShortRow.holds Try.pinned (OpenSpec.ofChange lzShortWrong)

/-- 'headgatelaw32.LzAgain': WHATEVER THE INPUT: true; the input reads as it did. -/
def lzAgainSpec : ChangeSpec := { name := "lzAgain", fn := fun _ => fun
  | [d1, d2] => { results := [.lit (.bool true)], args := [d1, d2] }
  | _ => none }
def lzAgainRow : OpenClaim := { program := "ytnhchmbbhkgccaa", sum := "0c42693622f04bb610f13fec7f35ac9fa614300366ea80f4b90c3a9ba4f47570", func := "headgate/headgatelaw32.LzAgain", spec := "lzAgain", inPlace := ["internal/abi.NoEscape"], plainKeys := false, apart := false }
def LzAgainSaid : Prop := lzAgainRow.holds Try.pinned (OpenSpec.ofChange lzAgainSpec)

/-- ITS FALSE NEIGHBOUR: 'it returns false'. Refute it at one input. -/
def lzAgainWrong : ChangeSpec := { name := "lzAgain", fn := fun _ => fun
  | [d1, d2] => { results := [.lit (.bool false)], args := [d1, d2] }
  | _ => none }
def LzAgainWrongFalsely : Prop := lzAgainRow.holds Try.pinned (OpenSpec.ofChange lzAgainWrong)

/-- 'headgatelaw32.LzRoom': WHATEVER THE INPUT: true; the input reads as it did. -/
def lzRoomSpec : ChangeSpec := { name := "lzRoom", fn := fun _ => fun
  | [d1, d2] => { results := [.lit (.bool true)], args := [d1, d2] }
  | _ => none }
def lzRoomRow : OpenClaim := { program := "ytnhchmbbhkgccaa", sum := "0c42693622f04bb610f13fec7f35ac9fa614300366ea80f4b90c3a9ba4f47570", func := "headgate/headgatelaw32.LzRoom", spec := "lzRoom", inPlace := ["internal/abi.NoEscape"], plainKeys := false, apart := false }
def LzRoomSaid : Prop := lzRoomRow.holds Try.pinned (OpenSpec.ofChange lzRoomSpec)

/-- ITS FALSE NEIGHBOUR: 'it returns false'. Refute it at one input. -/
def lzRoomWrong : ChangeSpec := { name := "lzRoom", fn := fun _ => fun
  | [d1, d2] => { results := [.lit (.bool false)], args := [d1, d2] }
  | _ => none }
def LzRoomWrongFalsely : Prop := lzRoomRow.holds Try.pinned (OpenSpec.ofChange lzRoomWrong)

/-- 'headgatelaw32.LzCut': WHATEVER THE INPUT: true; the input reads as it did. -/
def lzCutSpec : ChangeSpec := { name := "lzCut", fn := fun _ => fun
  | [d1, d2] => { results := [.lit (.bool true)], args := [d1, d2] }
  | _ => none }
def lzCutRow : OpenClaim := { program := "ytnhchmbbhkgccaa", sum := "0c42693622f04bb610f13fec7f35ac9fa614300366ea80f4b90c3a9ba4f47570", func := "headgate/headgatelaw32.LzCut", spec := "lzCut", inPlace := ["internal/abi.NoEscape"], plainKeys := false, apart := false }
def LzCutSaid : Prop := lzCutRow.holds Try.pinned (OpenSpec.ofChange lzCutSpec)

/-- ITS FALSE NEIGHBOUR: 'it returns false'. Refute it at one input. -/
def lzCutWrong : ChangeSpec := { name := "lzCut", fn := fun _ => fun
  | [d1, d2] => { results := [.lit (.bool false)], args := [d1, d2] }
  | _ => none }
def LzCutWrongFalsely : Prop := lzCutRow.holds Try.pinned (OpenSpec.ofChange lzCutWrong)

/- THE SECOND FORM. 'bulk': how many values and letters a reading holds, each counted each time it is reached (what is shared counts as often as it is met; a slice's spare places count too). A statement '..UptoSaid' is the law's where the arguments, and the package variables that the reading takes, are together of bulk at most 1048576: NARROWER than '..Said'. Prove '..Said' where nothing that the law and all that it calls make is longer than what came in: it says more and counts as full. Else prove '..UptoSaid'. A law counts once. -/
mutual
def uptoBulk {H : Type} : DataW H → Nat
  | .lit (.string bytes) => bytes.length + 1
  | .lit _ => 1
  | .nil => 1
  | .ptr d => uptoBulk d + 1
  | .slice elems spare => uptoBulkAll elems + uptoBulkAll spare + 1
  | .agg parts => uptoBulkAll parts + 1
  | .iface _ d => uptoBulk d + 1
  | .map entries => uptoBulkEntries entries + 1
  | .held _ => 1
def uptoBulkAll {H : Type} : List (DataW H) → Nat
  | [] => 0
  | d :: r => uptoBulk d + uptoBulkAll r
def uptoBulkEntries {H : Type} : List (Lit × DataW H) → Nat
  | [] => 0
  | x :: r => uptoBulkEntry x + uptoBulkEntries r
def uptoBulkEntry {H : Type} : Lit × DataW H → Nat
  | (.string bytes, d) => bytes.length + uptoBulk d + 1
  | (_, d) => uptoBulk d + 1
 end
def uptoSmall : (H : Type) → List (DataW H) → Bool := fun _ ds => decide (uptoBulkAll ds ≤ 1048576)
def OpenSpec.upto (s : _root_.Go.ChangeSpec) : _root_.Go.OpenSpec := { _root_.Go.OpenSpec.ofChange s with cond := some uptoSmall }

/-- 'headgatelaw32.LzUnpacks', WHERE WHAT IT READS IS OF BULK AT MOST 1048576: true; the input reads as it did. -/
def lzUnpacksUptoRow : OpenClaim := { program := "ytnhchmbbhkgccaa", sum := "0c42693622f04bb610f13fec7f35ac9fa614300366ea80f4b90c3a9ba4f47570", func := "headgate/headgatelaw32.LzUnpacks", spec := "lzUnpacks", inPlace := ["internal/abi.NoEscape"], plainKeys := false, apart := false, narrowed := true }
def LzUnpacksUptoSaid : Prop := lzUnpacksUptoRow.holds Try.pinned (OpenSpec.upto lzUnpacksSpec)

/-- 'headgatelaw32.LzBack', WHERE WHAT IT READS IS OF BULK AT MOST 1048576: true; the input reads as it did. -/
def lzBackUptoRow : OpenClaim := { program := "ytnhchmbbhkgccaa", sum := "0c42693622f04bb610f13fec7f35ac9fa614300366ea80f4b90c3a9ba4f47570", func := "headgate/headgatelaw32.LzBack", spec := "lzBack", inPlace := ["internal/abi.NoEscape"], plainKeys := false, apart := false, narrowed := true }
def LzBackUptoSaid : Prop := lzBackUptoRow.holds Try.pinned (OpenSpec.upto lzBackSpec)

/-- 'headgatelaw32.LzShort', WHERE WHAT IT READS IS OF BULK AT MOST 1048576: true; the input reads as it did. -/
def lzShortUptoRow : OpenClaim := { program := "ytnhchmbbhkgccaa", sum := "0c42693622f04bb610f13fec7f35ac9fa614300366ea80f4b90c3a9ba4f47570", func := "headgate/headgatelaw32.LzShort", spec := "lzShort", inPlace := ["internal/abi.NoEscape"], plainKeys := false, apart := false, narrowed := true }
def LzShortUptoSaid : Prop := lzShortUptoRow.holds Try.pinned (OpenSpec.upto lzShortSpec)

/-- 'headgatelaw32.LzAgain', WHERE WHAT IT READS IS OF BULK AT MOST 1048576: true; the input reads as it did. -/
def lzAgainUptoRow : OpenClaim := { program := "ytnhchmbbhkgccaa", sum := "0c42693622f04bb610f13fec7f35ac9fa614300366ea80f4b90c3a9ba4f47570", func := "headgate/headgatelaw32.LzAgain", spec := "lzAgain", inPlace := ["internal/abi.NoEscape"], plainKeys := false, apart := false, narrowed := true }
def LzAgainUptoSaid : Prop := lzAgainUptoRow.holds Try.pinned (OpenSpec.upto lzAgainSpec)

/-- 'headgatelaw32.LzRoom', WHERE WHAT IT READS IS OF BULK AT MOST 1048576: true; the input reads as it did. -/
def lzRoomUptoRow : OpenClaim := { program := "ytnhchmbbhkgccaa", sum := "0c42693622f04bb610f13fec7f35ac9fa614300366ea80f4b90c3a9ba4f47570", func := "headgate/headgatelaw32.LzRoom", spec := "lzRoom", inPlace := ["internal/abi.NoEscape"], plainKeys := false, apart := false, narrowed := true }
def LzRoomUptoSaid : Prop := lzRoomUptoRow.holds Try.pinned (OpenSpec.upto lzRoomSpec)

/-- 'headgatelaw32.LzCut', WHERE WHAT IT READS IS OF BULK AT MOST 1048576: true; the input reads as it did. -/
def lzCutUptoRow : OpenClaim := { program := "ytnhchmbbhkgccaa", sum := "0c42693622f04bb610f13fec7f35ac9fa614300366ea80f4b90c3a9ba4f47570", func := "headgate/headgatelaw32.LzCut", spec := "lzCut", inPlace := ["internal/abi.NoEscape"], plainKeys := false, apart := false, narrowed := true }
def LzCutUptoSaid : Prop := lzCutUptoRow.holds Try.pinned (OpenSpec.upto lzCutSpec)

end Rows
end Go.Proofs.Ytnhchmbbhkgccaa
