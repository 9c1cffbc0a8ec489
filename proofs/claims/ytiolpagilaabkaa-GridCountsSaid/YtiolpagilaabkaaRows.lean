/-
  No cell of these rows narrows 'for every input' (looked for: loops, veiled, ifaces, maps, wideKeys, modest, calm, conditions, laid).
  DERIVED. THE GIVEN ROWS OF THIS SEAT. 12 by the template 'for every input the law returns true; each argument reads behind the call as it read before'; 0 by the template 'total and deterministic' (their statements: YtiolpagilaabkaaTotals.lean).
  GIVEN WITH THE SEED: the statements are not yours to turn. If you find one false, say at which input.
  Laid BY PROGRAM, IN A SANDBOX (cutbox-rows.mjs): the forced cells as the released guide's own fill.sh prints them over the translation 0074580fb56232e8… (all of the seat's roots in one cut). By AI agents, Wed Nov 11 2026. No macro, syntax, notation, axiom, sorry.
-/
import Derived.Test.YtiolpagilaabkaaChecked
import GoSem.Claim
import GoSem.ClaimJoined
import GoSem.ClaimMapViews
import Derived.JoinedTies
import Derived.KernelRfl
namespace Go.Proofs.Ytiolpagilaabkaa
/- THE CELL 'sum', in the pinned program and in every row, IS THE sha256 OF THE DUMP (.gsa) THAT YtiolpagilaabkaaProg.lean LOADS. Nothing in Lean hashes anything: it is a label: what it is worth is what the hold of that sum in a sandbox is worth. -/
noncomputable def Try.pinned : Pinned := { name := "ytiolpagilaabkaa", sum := "0074580fb56232e8d214a4399bf4805cdd17759bd18f23d61ad07379799fafc3", checked := Try.checked }
namespace Rows
def none {H : Type} : Left H := { results := [], args := [] }

/-- 'headgatelaw02.CrcSums': WHATEVER THE INPUT: true; the input reads as it did. -/
def crcSumsSpec : ChangeSpec := { name := "crcSums", fn := fun _ => fun
  | [d1, d2] => { results := [.lit (.bool true)], args := [d1, d2] }
  | _ => none }
def crcSumsRow : OpenClaim := { program := "ytiolpagilaabkaa", sum := "0074580fb56232e8d214a4399bf4805cdd17759bd18f23d61ad07379799fafc3", func := "headgate/headgatelaw02.CrcSums", spec := "crcSums", apart := false }
def CrcSumsSaid : Prop := crcSumsRow.holds Try.pinned (OpenSpec.ofChange crcSumsSpec)

/-- ITS FALSE NEIGHBOUR: 'it returns false'. Refute it at one input. -/
def crcSumsWrong : ChangeSpec := { name := "crcSums", fn := fun _ => fun
  | [d1, d2] => { results := [.lit (.bool false)], args := [d1, d2] }
  | _ => none }
def CrcSumsWrongFalsely : Prop := crcSumsRow.holds Try.pinned (OpenSpec.ofChange crcSumsWrong)

/-- 'headgatelaw02.CrcJoins': WHATEVER THE INPUT: true; the input reads as it did. -/
def crcJoinsSpec : ChangeSpec := { name := "crcJoins", fn := fun _ => fun
  | [d1, d2] => { results := [.lit (.bool true)], args := [d1, d2] }
  | _ => none }
def crcJoinsRow : OpenClaim := { program := "ytiolpagilaabkaa", sum := "0074580fb56232e8d214a4399bf4805cdd17759bd18f23d61ad07379799fafc3", func := "headgate/headgatelaw02.CrcJoins", spec := "crcJoins", apart := false }
def CrcJoinsSaid : Prop := crcJoinsRow.holds Try.pinned (OpenSpec.ofChange crcJoinsSpec)

/-- ITS FALSE NEIGHBOUR: 'it returns false'. Refute it at one input. -/
def crcJoinsWrong : ChangeSpec := { name := "crcJoins", fn := fun _ => fun
  | [d1, d2] => { results := [.lit (.bool false)], args := [d1, d2] }
  | _ => none }
def CrcJoinsWrongFalsely : Prop := crcJoinsRow.holds Try.pinned (OpenSpec.ofChange crcJoinsWrong)

/-- 'headgatelaw02.CrcSeals': WHATEVER THE INPUT: true; the input reads as it did. -/
def crcSealsSpec : ChangeSpec := { name := "crcSeals", fn := fun _ => fun
  | [d] => { results := [.lit (.bool true)], args := [d] }
  | _ => none }
def crcSealsRow : OpenClaim := { program := "ytiolpagilaabkaa", sum := "0074580fb56232e8d214a4399bf4805cdd17759bd18f23d61ad07379799fafc3", func := "headgate/headgatelaw02.CrcSeals", spec := "crcSeals", apart := false }
def CrcSealsSaid : Prop := crcSealsRow.holds Try.pinned (OpenSpec.ofChange crcSealsSpec)

/-- ITS FALSE NEIGHBOUR: 'it returns false'. Refute it at one input. -/
def crcSealsWrong : ChangeSpec := { name := "crcSeals", fn := fun _ => fun
  | [d] => { results := [.lit (.bool false)], args := [d] }
  | _ => none }
def CrcSealsWrongFalsely : Prop := crcSealsRow.holds Try.pinned (OpenSpec.ofChange crcSealsWrong)

/-- 'headgatelaw02.CrcBack': WHATEVER THE INPUT: true; the input reads as it did. -/
def crcBackSpec : ChangeSpec := { name := "crcBack", fn := fun _ => fun
  | [d] => { results := [.lit (.bool true)], args := [d] }
  | _ => none }
def crcBackRow : OpenClaim := { program := "ytiolpagilaabkaa", sum := "0074580fb56232e8d214a4399bf4805cdd17759bd18f23d61ad07379799fafc3", func := "headgate/headgatelaw02.CrcBack", spec := "crcBack", apart := false }
def CrcBackSaid : Prop := crcBackRow.holds Try.pinned (OpenSpec.ofChange crcBackSpec)

/-- ITS FALSE NEIGHBOUR: 'it returns false'. Refute it at one input. -/
def crcBackWrong : ChangeSpec := { name := "crcBack", fn := fun _ => fun
  | [d] => { results := [.lit (.bool false)], args := [d] }
  | _ => none }
def CrcBackWrongFalsely : Prop := crcBackRow.holds Try.pinned (OpenSpec.ofChange crcBackWrong)

/-- 'headgatelaw02.CrcTurned': WHATEVER THE INPUT: true; the input reads as it did. -/
def crcTurnedSpec : ChangeSpec := { name := "crcTurned", fn := fun _ => fun
  | [d1, d2, d3] => { results := [.lit (.bool true)], args := [d1, d2, d3] }
  | _ => none }
def crcTurnedRow : OpenClaim := { program := "ytiolpagilaabkaa", sum := "0074580fb56232e8d214a4399bf4805cdd17759bd18f23d61ad07379799fafc3", func := "headgate/headgatelaw02.CrcTurned", spec := "crcTurned", apart := false }
def CrcTurnedSaid : Prop := crcTurnedRow.holds Try.pinned (OpenSpec.ofChange crcTurnedSpec)

/-- ITS FALSE NEIGHBOUR: 'it returns false'. Refute it at one input. -/
def crcTurnedWrong : ChangeSpec := { name := "crcTurned", fn := fun _ => fun
  | [d1, d2, d3] => { results := [.lit (.bool false)], args := [d1, d2, d3] }
  | _ => none }
def CrcTurnedWrongFalsely : Prop := crcTurnedRow.holds Try.pinned (OpenSpec.ofChange crcTurnedWrong)

/-- 'headgatelaw02.CrcFour': WHATEVER THE INPUT: true; the input reads as it did. -/
def crcFourSpec : ChangeSpec := { name := "crcFour", fn := fun _ => fun
  | [d1, d2, d3] => { results := [.lit (.bool true)], args := [d1, d2, d3] }
  | _ => none }
def crcFourRow : OpenClaim := { program := "ytiolpagilaabkaa", sum := "0074580fb56232e8d214a4399bf4805cdd17759bd18f23d61ad07379799fafc3", func := "headgate/headgatelaw02.CrcFour", spec := "crcFour", apart := false }
def CrcFourSaid : Prop := crcFourRow.holds Try.pinned (OpenSpec.ofChange crcFourSpec)

/-- ITS FALSE NEIGHBOUR: 'it returns false'. Refute it at one input. -/
def crcFourWrong : ChangeSpec := { name := "crcFour", fn := fun _ => fun
  | [d1, d2, d3] => { results := [.lit (.bool false)], args := [d1, d2, d3] }
  | _ => none }
def CrcFourWrongFalsely : Prop := crcFourRow.holds Try.pinned (OpenSpec.ofChange crcFourWrong)

/-- 'headgatelaw14.GridStarts': WHATEVER THE INPUT: true; the input reads as it did. -/
def gridStartsSpec : ChangeSpec := { name := "gridStarts", fn := fun _ => fun
  | [d1, d2] => { results := [.lit (.bool true)], args := [d1, d2] }
  | _ => none }
def gridStartsRow : OpenClaim := { program := "ytiolpagilaabkaa", sum := "0074580fb56232e8d214a4399bf4805cdd17759bd18f23d61ad07379799fafc3", func := "headgate/headgatelaw14.GridStarts", spec := "gridStarts", apart := false }
def GridStartsSaid : Prop := gridStartsRow.holds Try.pinned (OpenSpec.ofChange gridStartsSpec)

/-- ITS FALSE NEIGHBOUR: 'it returns false'. Refute it at one input. -/
def gridStartsWrong : ChangeSpec := { name := "gridStarts", fn := fun _ => fun
  | [d1, d2] => { results := [.lit (.bool false)], args := [d1, d2] }
  | _ => none }
def GridStartsWrongFalsely : Prop := gridStartsRow.holds Try.pinned (OpenSpec.ofChange gridStartsWrong)

/-- 'headgatelaw14.GridCloses': WHATEVER THE INPUT: true; the input reads as it did. -/
def gridClosesSpec : ChangeSpec := { name := "gridCloses", fn := fun _ => fun
  | [d1, d2, d3] => { results := [.lit (.bool true)], args := [d1, d2, d3] }
  | _ => none }
def gridClosesRow : OpenClaim := { program := "ytiolpagilaabkaa", sum := "0074580fb56232e8d214a4399bf4805cdd17759bd18f23d61ad07379799fafc3", func := "headgate/headgatelaw14.GridCloses", spec := "gridCloses", apart := false }
def GridClosesSaid : Prop := gridClosesRow.holds Try.pinned (OpenSpec.ofChange gridClosesSpec)

/-- ITS FALSE NEIGHBOUR: 'it returns false'. Refute it at one input. -/
def gridClosesWrong : ChangeSpec := { name := "gridCloses", fn := fun _ => fun
  | [d1, d2, d3] => { results := [.lit (.bool false)], args := [d1, d2, d3] }
  | _ => none }
def GridClosesWrongFalsely : Prop := gridClosesRow.holds Try.pinned (OpenSpec.ofChange gridClosesWrong)

/-- 'headgatelaw14.GridHas': WHATEVER THE INPUT: true; the input reads as it did. -/
def gridHasSpec : ChangeSpec := { name := "gridHas", fn := fun _ => fun
  | [d1, d2, d3] => { results := [.lit (.bool true)], args := [d1, d2, d3] }
  | _ => none }
def gridHasRow : OpenClaim := { program := "ytiolpagilaabkaa", sum := "0074580fb56232e8d214a4399bf4805cdd17759bd18f23d61ad07379799fafc3", func := "headgate/headgatelaw14.GridHas", spec := "gridHas", apart := false }
def GridHasSaid : Prop := gridHasRow.holds Try.pinned (OpenSpec.ofChange gridHasSpec)

/-- ITS FALSE NEIGHBOUR: 'it returns false'. Refute it at one input. -/
def gridHasWrong : ChangeSpec := { name := "gridHas", fn := fun _ => fun
  | [d1, d2, d3] => { results := [.lit (.bool false)], args := [d1, d2, d3] }
  | _ => none }
def GridHasWrongFalsely : Prop := gridHasRow.holds Try.pinned (OpenSpec.ofChange gridHasWrong)

/-- 'headgatelaw14.GridCounts': WHATEVER THE INPUT: true; the input reads as it did. -/
def gridCountsSpec : ChangeSpec := { name := "gridCounts", fn := fun _ => fun
  | [d1, d2] => { results := [.lit (.bool true)], args := [d1, d2] }
  | _ => none }
def gridCountsRow : OpenClaim := { program := "ytiolpagilaabkaa", sum := "0074580fb56232e8d214a4399bf4805cdd17759bd18f23d61ad07379799fafc3", func := "headgate/headgatelaw14.GridCounts", spec := "gridCounts", apart := false }
def GridCountsSaid : Prop := gridCountsRow.holds Try.pinned (OpenSpec.ofChange gridCountsSpec)

/-- ITS FALSE NEIGHBOUR: 'it returns false'. Refute it at one input. -/
def gridCountsWrong : ChangeSpec := { name := "gridCounts", fn := fun _ => fun
  | [d1, d2] => { results := [.lit (.bool false)], args := [d1, d2] }
  | _ => none }
def GridCountsWrongFalsely : Prop := gridCountsRow.holds Try.pinned (OpenSpec.ofChange gridCountsWrong)

/-- 'headgatelaw14.GridStays': WHATEVER THE INPUT: true; the input reads as it did. -/
def gridStaysSpec : ChangeSpec := { name := "gridStays", fn := fun _ => fun
  | [d1, d2, d3, d4, d5] => { results := [.lit (.bool true)], args := [d1, d2, d3, d4, d5] }
  | _ => none }
def gridStaysRow : OpenClaim := { program := "ytiolpagilaabkaa", sum := "0074580fb56232e8d214a4399bf4805cdd17759bd18f23d61ad07379799fafc3", func := "headgate/headgatelaw14.GridStays", spec := "gridStays", apart := false }
def GridStaysSaid : Prop := gridStaysRow.holds Try.pinned (OpenSpec.ofChange gridStaysSpec)

/-- ITS FALSE NEIGHBOUR: 'it returns false'. Refute it at one input. -/
def gridStaysWrong : ChangeSpec := { name := "gridStays", fn := fun _ => fun
  | [d1, d2, d3, d4, d5] => { results := [.lit (.bool false)], args := [d1, d2, d3, d4, d5] }
  | _ => none }
def GridStaysWrongFalsely : Prop := gridStaysRow.holds Try.pinned (OpenSpec.ofChange gridStaysWrong)

/-- 'headgatelaw14.GridTumbles': WHATEVER THE INPUT: true; the input reads as it did. -/
def gridTumblesSpec : ChangeSpec := { name := "gridTumbles", fn := fun _ => fun
  | [d1, d2, d3] => { results := [.lit (.bool true)], args := [d1, d2, d3] }
  | _ => none }
def gridTumblesRow : OpenClaim := { program := "ytiolpagilaabkaa", sum := "0074580fb56232e8d214a4399bf4805cdd17759bd18f23d61ad07379799fafc3", func := "headgate/headgatelaw14.GridTumbles", spec := "gridTumbles", apart := false }
def GridTumblesSaid : Prop := gridTumblesRow.holds Try.pinned (OpenSpec.ofChange gridTumblesSpec)

/-- ITS FALSE NEIGHBOUR: 'it returns false'. Refute it at one input. -/
def gridTumblesWrong : ChangeSpec := { name := "gridTumbles", fn := fun _ => fun
  | [d1, d2, d3] => { results := [.lit (.bool false)], args := [d1, d2, d3] }
  | _ => none }
def GridTumblesWrongFalsely : Prop := gridTumblesRow.holds Try.pinned (OpenSpec.ofChange gridTumblesWrong)

/- THE SECOND FORM. 'bulk': how many values and letters a reading holds, each counted each time it is reached (what is shared counts as often as it is met; a slice's spare places count too). A statement '..UptoSaid' is the law's where the arguments, and the package variables that the reading takes, are together of bulk at most 1048576: NARROWER than '..Said'. Prove '..Said' where nothing that the law and all that it calls make is longer than what came in: it says more and counts as full. Else prove '..UptoSaid'. A law counts once. -/
mutual
def uptoBulk {H : Type} : DataW H → Nat
  | .lit (.string bytes) => bytes.length + 1
  | .lit _ => 1
  | .nil => 1
  | .ptr d => uptoBulk d + 1
  | .slice elems spare => uptoBulkAll elems + uptoBulkAll spare + 1
  | .agg parts => uptoBulkAll parts + 1
  | .iface _ d => uptoBulk d + 1
  | .map entries => uptoBulkEntries entries + 1
  | .held _ => 1
def uptoBulkAll {H : Type} : List (DataW H) → Nat
  | [] => 0
  | d :: r => uptoBulk d + uptoBulkAll r
def uptoBulkEntries {H : Type} : List (Lit × DataW H) → Nat
  | [] => 0
  | x :: r => uptoBulkEntry x + uptoBulkEntries r
def uptoBulkEntry {H : Type} : Lit × DataW H → Nat
  | (.string bytes, d) => bytes.length + uptoBulk d + 1
  | (_, d) => uptoBulk d + 1
 end
def uptoSmall : (H : Type) → List (DataW H) → Bool := fun _ ds => decide (uptoBulkAll ds ≤ 1048576)
def OpenSpec.upto (s : _root_.Go.ChangeSpec) : _root_.Go.OpenSpec := { _root_.Go.OpenSpec.ofChange s with cond := some uptoSmall }

/-- 'headgatelaw02.CrcSums', WHERE WHAT IT READS IS OF BULK AT MOST 1048576: true; the input reads as it did. -/
def crcSumsUptoRow : OpenClaim := { program := "ytiolpagilaabkaa", sum := "0074580fb56232e8d214a4399bf4805cdd17759bd18f23d61ad07379799fafc3", func := "headgate/headgatelaw02.CrcSums", spec := "crcSums", apart := false, narrowed := true }
def CrcSumsUptoSaid : Prop := crcSumsUptoRow.holds Try.pinned (OpenSpec.upto crcSumsSpec)

/-- 'headgatelaw02.CrcJoins', WHERE WHAT IT READS IS OF BULK AT MOST 1048576: true; the input reads as it did. -/
def crcJoinsUptoRow : OpenClaim := { program := "ytiolpagilaabkaa", sum := "0074580fb56232e8d214a4399bf4805cdd17759bd18f23d61ad07379799fafc3", func := "headgate/headgatelaw02.CrcJoins", spec := "crcJoins", apart := false, narrowed := true }
def CrcJoinsUptoSaid : Prop := crcJoinsUptoRow.holds Try.pinned (OpenSpec.upto crcJoinsSpec)

/-- 'headgatelaw02.CrcSeals', WHERE WHAT IT READS IS OF BULK AT MOST 1048576: true; the input reads as it did. -/
def crcSealsUptoRow : OpenClaim := { program := "ytiolpagilaabkaa", sum := "0074580fb56232e8d214a4399bf4805cdd17759bd18f23d61ad07379799fafc3", func := "headgate/headgatelaw02.CrcSeals", spec := "crcSeals", apart := false, narrowed := true }
def CrcSealsUptoSaid : Prop := crcSealsUptoRow.holds Try.pinned (OpenSpec.upto crcSealsSpec)

/-- 'headgatelaw02.CrcBack', WHERE WHAT IT READS IS OF BULK AT MOST 1048576: true; the input reads as it did. -/
def crcBackUptoRow : OpenClaim := { program := "ytiolpagilaabkaa", sum := "0074580fb56232e8d214a4399bf4805cdd17759bd18f23d61ad07379799fafc3", func := "headgate/headgatelaw02.CrcBack", spec := "crcBack", apart := false, narrowed := true }
def CrcBackUptoSaid : Prop := crcBackUptoRow.holds Try.pinned (OpenSpec.upto crcBackSpec)

/-- 'headgatelaw02.CrcTurned', WHERE WHAT IT READS IS OF BULK AT MOST 1048576: true; the input reads as it did. -/
def crcTurnedUptoRow : OpenClaim := { program := "ytiolpagilaabkaa", sum := "0074580fb56232e8d214a4399bf4805cdd17759bd18f23d61ad07379799fafc3", func := "headgate/headgatelaw02.CrcTurned", spec := "crcTurned", apart := false, narrowed := true }
def CrcTurnedUptoSaid : Prop := crcTurnedUptoRow.holds Try.pinned (OpenSpec.upto crcTurnedSpec)

/-- 'headgatelaw02.CrcFour', WHERE WHAT IT READS IS OF BULK AT MOST 1048576: true; the input reads as it did. -/
def crcFourUptoRow : OpenClaim := { program := "ytiolpagilaabkaa", sum := "0074580fb56232e8d214a4399bf4805cdd17759bd18f23d61ad07379799fafc3", func := "headgate/headgatelaw02.CrcFour", spec := "crcFour", apart := false, narrowed := true }
def CrcFourUptoSaid : Prop := crcFourUptoRow.holds Try.pinned (OpenSpec.upto crcFourSpec)

/-- 'headgatelaw14.GridStarts', WHERE WHAT IT READS IS OF BULK AT MOST 1048576: true; the input reads as it did. -/
def gridStartsUptoRow : OpenClaim := { program := "ytiolpagilaabkaa", sum := "0074580fb56232e8d214a4399bf4805cdd17759bd18f23d61ad07379799fafc3", func := "headgate/headgatelaw14.GridStarts", spec := "gridStarts", apart := false, narrowed := true }
def GridStartsUptoSaid : Prop := gridStartsUptoRow.holds Try.pinned (OpenSpec.upto gridStartsSpec)

/-- 'headgatelaw14.GridCloses', WHERE WHAT IT READS IS OF BULK AT MOST 1048576: true; the input reads as it did. -/
def gridClosesUptoRow : OpenClaim := { program := "ytiolpagilaabkaa", sum := "0074580fb56232e8d214a4399bf4805cdd17759bd18f23d61ad07379799fafc3", func := "headgate/headgatelaw14.GridCloses", spec := "gridCloses", apart := false, narrowed := true }
def GridClosesUptoSaid : Prop := gridClosesUptoRow.holds Try.pinned (OpenSpec.upto gridClosesSpec)

/-- 'headgatelaw14.GridHas', WHERE WHAT IT READS IS OF BULK AT MOST 1048576: true; the input reads as it did. -/
def gridHasUptoRow : OpenClaim := { program := "ytiolpagilaabkaa", sum := "0074580fb56232e8d214a4399bf4805cdd17759bd18f23d61ad07379799fafc3", func := "headgate/headgatelaw14.GridHas", spec := "gridHas", apart := false, narrowed := true }
def GridHasUptoSaid : Prop := gridHasUptoRow.holds Try.pinned (OpenSpec.upto gridHasSpec)

/-- 'headgatelaw14.GridCounts', WHERE WHAT IT READS IS OF BULK AT MOST 1048576: true; the input reads as it did. -/
def gridCountsUptoRow : OpenClaim := { program := "ytiolpagilaabkaa", sum := "0074580fb56232e8d214a4399bf4805cdd17759bd18f23d61ad07379799fafc3", func := "headgate/headgatelaw14.GridCounts", spec := "gridCounts", apart := false, narrowed := true }
def GridCountsUptoSaid : Prop := gridCountsUptoRow.holds Try.pinned (OpenSpec.upto gridCountsSpec)

/-- 'headgatelaw14.GridStays', WHERE WHAT IT READS IS OF BULK AT MOST 1048576: true; the input reads as it did. -/
def gridStaysUptoRow : OpenClaim := { program := "ytiolpagilaabkaa", sum := "0074580fb56232e8d214a4399bf4805cdd17759bd18f23d61ad07379799fafc3", func := "headgate/headgatelaw14.GridStays", spec := "gridStays", apart := false, narrowed := true }
def GridStaysUptoSaid : Prop := gridStaysUptoRow.holds Try.pinned (OpenSpec.upto gridStaysSpec)

/-- 'headgatelaw14.GridTumbles', WHERE WHAT IT READS IS OF BULK AT MOST 1048576: true; the input reads as it did. -/
def gridTumblesUptoRow : OpenClaim := { program := "ytiolpagilaabkaa", sum := "0074580fb56232e8d214a4399bf4805cdd17759bd18f23d61ad07379799fafc3", func := "headgate/headgatelaw14.GridTumbles", spec := "gridTumbles", apart := false, narrowed := true }
def GridTumblesUptoSaid : Prop := gridTumblesUptoRow.holds Try.pinned (OpenSpec.upto gridTumblesSpec)

end Rows
end Go.Proofs.Ytiolpagilaabkaa
