/-
  No cell of these rows narrows 'for every input' (looked for: loops, veiled, ifaces, maps, wideKeys, modest, calm, conditions, laid).
  DERIVED. THE GIVEN ROWS OF THIS SEAT. 6 by the template 'for every input the law returns true; each argument reads behind the call as it read before'; 0 by the template 'total and deterministic' (their statements: YtmijjaihedbjgaaTotals.lean).
  GIVEN WITH THE SEED: the statements are not yours to turn. If you find one false, say at which input.
  Laid BY PROGRAM, IN A SANDBOX (cutbox-rows.mjs): the forced cells as the released guide's own fill.sh prints them over the translation fae5914aab1145b8… (all of the seat's roots in one cut). By AI agents, Wed Nov 11 2026. No macro, syntax, notation, axiom, sorry.
-/
import Derived.Test.YtmijjaihedbjgaaChecked
import GoSem.Claim
import GoSem.ClaimJoined
import GoSem.ClaimMapViews
import Derived.JoinedTies
import Derived.KernelRfl
namespace Go.Proofs.Ytmijjaihedbjgaa
/- THE CELL 'sum', in the pinned program and in every row, IS THE sha256 OF THE DUMP (.gsa) THAT YtmijjaihedbjgaaProg.lean LOADS. Nothing in Lean hashes anything: it is a label: what it is worth is what the hold of that sum in a sandbox is worth. -/
noncomputable def Try.pinned : Pinned := { name := "ytmijjaihedbjgaa", sum := "fae5914aab1145b832c99cb4b0ac9c738b7f9455c64c2d0ffde5aa5f3f3bde19", checked := Try.checked }
namespace Rows
def none {H : Type} : Left H := { results := [], args := [] }

/-- 'strawloftlaw.MapsDiff': WHATEVER THE INPUT: true; the input reads as it did. -/
def mapsDiffSpec : ChangeSpec := { name := "mapsDiff", fn := fun _ => fun
  | [d1, d2] => { results := [.lit (.bool true)], args := [d1, d2] }
  | _ => none }
def mapsDiffRow : OpenClaim := { program := "ytmijjaihedbjgaa", sum := "fae5914aab1145b832c99cb4b0ac9c738b7f9455c64c2d0ffde5aa5f3f3bde19", func := "strawloft/strawloftlaw.MapsDiff", spec := "mapsDiff", apart := false }
def MapsDiffSaid : Prop := mapsDiffRow.holds Try.pinned (OpenSpec.ofChange mapsDiffSpec)

/-- ITS FALSE NEIGHBOUR: 'it returns false'. Refute it at one input. -/
def mapsDiffWrong : ChangeSpec := { name := "mapsDiff", fn := fun _ => fun
  | [d1, d2] => { results := [.lit (.bool false)], args := [d1, d2] }
  | _ => none }
def MapsDiffWrongFalsely : Prop := mapsDiffRow.holds Try.pinned (OpenSpec.ofChange mapsDiffWrong)

/-- 'strawloftlaw.MapsApply': WHATEVER THE INPUT: true; the input reads as it did. -/
def mapsApplySpec : ChangeSpec := { name := "mapsApply", fn := fun _ => fun
  | [d1, d2, d3] => { results := [.lit (.bool true)], args := [d1, d2, d3] }
  | _ => none }
def mapsApplyRow : OpenClaim := { program := "ytmijjaihedbjgaa", sum := "fae5914aab1145b832c99cb4b0ac9c738b7f9455c64c2d0ffde5aa5f3f3bde19", func := "strawloft/strawloftlaw.MapsApply", spec := "mapsApply", apart := false }
def MapsApplySaid : Prop := mapsApplyRow.holds Try.pinned (OpenSpec.ofChange mapsApplySpec)

/-- ITS FALSE NEIGHBOUR: 'it returns false'. Refute it at one input. -/
def mapsApplyWrong : ChangeSpec := { name := "mapsApply", fn := fun _ => fun
  | [d1, d2, d3] => { results := [.lit (.bool false)], args := [d1, d2, d3] }
  | _ => none }
def MapsApplyWrongFalsely : Prop := mapsApplyRow.holds Try.pinned (OpenSpec.ofChange mapsApplyWrong)

/-- 'strawloftkeep.MapsBack': WHATEVER THE INPUT: true; the input reads as it did. -/
def mapsBackSpec : ChangeSpec := { name := "mapsBack", fn := fun _ => fun
  | [d1, d2] => { results := [.lit (.bool true)], args := [d1, d2] }
  | _ => none }
def mapsBackRow : OpenClaim := { program := "ytmijjaihedbjgaa", sum := "fae5914aab1145b832c99cb4b0ac9c738b7f9455c64c2d0ffde5aa5f3f3bde19", func := "strawloft/strawloftkeep.MapsBack", spec := "mapsBack", apart := false }
def MapsBackSaid : Prop := mapsBackRow.holds Try.pinned (OpenSpec.ofChange mapsBackSpec)

/-- ITS FALSE NEIGHBOUR: 'it returns false'. Refute it at one input. -/
def mapsBackWrong : ChangeSpec := { name := "mapsBack", fn := fun _ => fun
  | [d1, d2] => { results := [.lit (.bool false)], args := [d1, d2] }
  | _ => none }
def MapsBackWrongFalsely : Prop := mapsBackRow.holds Try.pinned (OpenSpec.ofChange mapsBackWrong)

/-- 'strawloftkeep.MapsUndo': WHATEVER THE INPUT: true; the input reads as it did. -/
def mapsUndoSpec : ChangeSpec := { name := "mapsUndo", fn := fun _ => fun
  | [d1, d2] => { results := [.lit (.bool true)], args := [d1, d2] }
  | _ => none }
def mapsUndoRow : OpenClaim := { program := "ytmijjaihedbjgaa", sum := "fae5914aab1145b832c99cb4b0ac9c738b7f9455c64c2d0ffde5aa5f3f3bde19", func := "strawloft/strawloftkeep.MapsUndo", spec := "mapsUndo", apart := false }
def MapsUndoSaid : Prop := mapsUndoRow.holds Try.pinned (OpenSpec.ofChange mapsUndoSpec)

/-- ITS FALSE NEIGHBOUR: 'it returns false'. Refute it at one input. -/
def mapsUndoWrong : ChangeSpec := { name := "mapsUndo", fn := fun _ => fun
  | [d1, d2] => { results := [.lit (.bool false)], args := [d1, d2] }
  | _ => none }
def MapsUndoWrongFalsely : Prop := mapsUndoRow.holds Try.pinned (OpenSpec.ofChange mapsUndoWrong)

/-- 'strawloftkeep.MapsOnce': WHATEVER THE INPUT: true; the input reads as it did. -/
def mapsOnceSpec : ChangeSpec := { name := "mapsOnce", fn := fun _ => fun
  | [d1, d2] => { results := [.lit (.bool true)], args := [d1, d2] }
  | _ => none }
def mapsOnceRow : OpenClaim := { program := "ytmijjaihedbjgaa", sum := "fae5914aab1145b832c99cb4b0ac9c738b7f9455c64c2d0ffde5aa5f3f3bde19", func := "strawloft/strawloftkeep.MapsOnce", spec := "mapsOnce", apart := false }
def MapsOnceSaid : Prop := mapsOnceRow.holds Try.pinned (OpenSpec.ofChange mapsOnceSpec)

/-- ITS FALSE NEIGHBOUR: 'it returns false'. Refute it at one input. -/
def mapsOnceWrong : ChangeSpec := { name := "mapsOnce", fn := fun _ => fun
  | [d1, d2] => { results := [.lit (.bool false)], args := [d1, d2] }
  | _ => none }
def MapsOnceWrongFalsely : Prop := mapsOnceRow.holds Try.pinned (OpenSpec.ofChange mapsOnceWrong)

/-- 'strawloftkeep.MapsParts': WHATEVER THE INPUT: true; the input reads as it did. -/
def mapsPartsSpec : ChangeSpec := { name := "mapsParts", fn := fun _ => fun
  | [d1, d2, d3] => { results := [.lit (.bool true)], args := [d1, d2, d3] }
  | _ => none }
def mapsPartsRow : OpenClaim := { program := "ytmijjaihedbjgaa", sum := "fae5914aab1145b832c99cb4b0ac9c738b7f9455c64c2d0ffde5aa5f3f3bde19", func := "strawloft/strawloftkeep.MapsParts", spec := "mapsParts", apart := false }
def MapsPartsSaid : Prop := mapsPartsRow.holds Try.pinned (OpenSpec.ofChange mapsPartsSpec)

/-- ITS FALSE NEIGHBOUR: 'it returns false'. Refute it at one input. -/
def mapsPartsWrong : ChangeSpec := { name := "mapsParts", fn := fun _ => fun
  | [d1, d2, d3] => { results := [.lit (.bool false)], args := [d1, d2, d3] }
  | _ => none }
def MapsPartsWrongFalsely : Prop := mapsPartsRow.holds Try.pinned (OpenSpec.ofChange mapsPartsWrong)

/- THE SECOND FORM. 'bulk': how many values and letters a reading holds, each counted each time it is reached (what is shared counts as often as it is met; a slice's spare places count too). A statement '..UptoSaid' is the law's where the arguments, and the package variables that the reading takes, are together of bulk at most 1048576: NARROWER than '..Said'. Prove '..Said' where nothing that the law and all that it calls make is longer than what came in: it says more and counts as full. Else prove '..UptoSaid'. A law counts once. -/
mutual
def uptoBulk {H : Type} : DataW H → Nat
  | .lit (.string bytes) => bytes.length + 1
  | .lit _ => 1
  | .nil => 1
  | .ptr d => uptoBulk d + 1
  | .slice elems spare => uptoBulkAll elems + uptoBulkAll spare + 1
  | .agg parts => uptoBulkAll parts + 1
  | .iface _ d => uptoBulk d + 1
  | .map entries => uptoBulkEntries entries + 1
  | .held _ => 1
def uptoBulkAll {H : Type} : List (DataW H) → Nat
  | [] => 0
  | d :: r => uptoBulk d + uptoBulkAll r
def uptoBulkEntries {H : Type} : List (Lit × DataW H) → Nat
  | [] => 0
  | x :: r => uptoBulkEntry x + uptoBulkEntries r
def uptoBulkEntry {H : Type} : Lit × DataW H → Nat
  | (.string bytes, d) => bytes.length + uptoBulk d + 1
  | (_, d) => uptoBulk d + 1
 end
def uptoSmall : (H : Type) → List (DataW H) → Bool := fun _ ds => decide (uptoBulkAll ds ≤ 1048576)
def OpenSpec.upto (s : _root_.Go.ChangeSpec) : _root_.Go.OpenSpec := { _root_.Go.OpenSpec.ofChange s with cond := some uptoSmall }

/-- 'strawloftlaw.MapsDiff', WHERE WHAT IT READS IS OF BULK AT MOST 1048576: true; the input reads as it did. -/
def mapsDiffUptoRow : OpenClaim := { program := "ytmijjaihedbjgaa", sum := "fae5914aab1145b832c99cb4b0ac9c738b7f9455c64c2d0ffde5aa5f3f3bde19", func := "strawloft/strawloftlaw.MapsDiff", spec := "mapsDiff", apart := false, narrowed := true }
def MapsDiffUptoSaid : Prop := mapsDiffUptoRow.holds Try.pinned (OpenSpec.upto mapsDiffSpec)

/-- 'strawloftlaw.MapsApply', WHERE WHAT IT READS IS OF BULK AT MOST 1048576: true; the input reads as it did. -/
def mapsApplyUptoRow : OpenClaim := { program := "ytmijjaihedbjgaa", sum := "fae5914aab1145b832c99cb4b0ac9c738b7f9455c64c2d0ffde5aa5f3f3bde19", func := "strawloft/strawloftlaw.MapsApply", spec := "mapsApply", apart := false, narrowed := true }
def MapsApplyUptoSaid : Prop := mapsApplyUptoRow.holds Try.pinned (OpenSpec.upto mapsApplySpec)

/-- 'strawloftkeep.MapsBack', WHERE WHAT IT READS IS OF BULK AT MOST 1048576: true; the input reads as it did. -/
def mapsBackUptoRow : OpenClaim := { program := "ytmijjaihedbjgaa", sum := "fae5914aab1145b832c99cb4b0ac9c738b7f9455c64c2d0ffde5aa5f3f3bde19", func := "strawloft/strawloftkeep.MapsBack", spec := "mapsBack", apart := false, narrowed := true }
def MapsBackUptoSaid : Prop := mapsBackUptoRow.holds Try.pinned (OpenSpec.upto mapsBackSpec)

/-- 'strawloftkeep.MapsUndo', WHERE WHAT IT READS IS OF BULK AT MOST 1048576: true; the input reads as it did. -/
def mapsUndoUptoRow : OpenClaim := { program := "ytmijjaihedbjgaa", sum := "fae5914aab1145b832c99cb4b0ac9c738b7f9455c64c2d0ffde5aa5f3f3bde19", func := "strawloft/strawloftkeep.MapsUndo", spec := "mapsUndo", apart := false, narrowed := true }
def MapsUndoUptoSaid : Prop := mapsUndoUptoRow.holds Try.pinned (OpenSpec.upto mapsUndoSpec)

/-- 'strawloftkeep.MapsOnce', WHERE WHAT IT READS IS OF BULK AT MOST 1048576: true; the input reads as it did. -/
def mapsOnceUptoRow : OpenClaim := { program := "ytmijjaihedbjgaa", sum := "fae5914aab1145b832c99cb4b0ac9c738b7f9455c64c2d0ffde5aa5f3f3bde19", func := "strawloft/strawloftkeep.MapsOnce", spec := "mapsOnce", apart := false, narrowed := true }
def MapsOnceUptoSaid : Prop := mapsOnceUptoRow.holds Try.pinned (OpenSpec.upto mapsOnceSpec)

/-- 'strawloftkeep.MapsParts', WHERE WHAT IT READS IS OF BULK AT MOST 1048576: true; the input reads as it did. -/
def mapsPartsUptoRow : OpenClaim := { program := "ytmijjaihedbjgaa", sum := "fae5914aab1145b832c99cb4b0ac9c738b7f9455c64c2d0ffde5aa5f3f3bde19", func := "strawloft/strawloftkeep.MapsParts", spec := "mapsParts", apart := false, narrowed := true }
def MapsPartsUptoSaid : Prop := mapsPartsUptoRow.holds Try.pinned (OpenSpec.upto mapsPartsSpec)

end Rows
end Go.Proofs.Ytmijjaihedbjgaa
