/-
  No cell of these rows narrows 'for every input' (looked for: loops, veiled, ifaces, maps, wideKeys, modest, calm, conditions, laid).
  DERIVED. THE GIVEN ROWS OF THIS SEAT. 6 by the template 'for every input the law returns true; each argument reads behind the call as it read before'; 0 by the template 'total and deterministic' (their statements: YtjfaadelhkjpfaaTotals.lean).
  GIVEN WITH THE SEED: the statements are not yours to turn. If you find one false, say at which input.
  Laid BY PROGRAM, IN A SANDBOX (cutbox-rows.mjs): the forced cells as the released guide's own fill.sh prints them over the translation a3ab3431a1135038… (all of the seat's roots in one cut). By AI agents, Wed Nov 11 2026. No macro, syntax, notation, axiom, sorry.
-/
import Derived.Test.YtjfaadelhkjpfaaChecked
import GoSem.Claim
import GoSem.ClaimJoined
import GoSem.ClaimMapViews
import Derived.JoinedTies
import Derived.KernelRfl
namespace Go.Proofs.Ytjfaadelhkjpfaa
/- THE CELL 'sum', in the pinned program and in every row, IS THE sha256 OF THE DUMP (.gsa) THAT YtjfaadelhkjpfaaProg.lean LOADS. Nothing in Lean hashes anything: it is a label: what it is worth is what the hold of that sum in a sandbox is worth. -/
noncomputable def Try.pinned : Pinned := { name := "ytjfaadelhkjpfaa", sum := "a3ab3431a1135038954d8adbe119c23b92bec8c61b3b5f86556e1b6859f09c26", checked := Try.checked }
namespace Rows
def none {H : Type} : Left H := { results := [], args := [] }

/-- 'strawloftlaw.CurveTells': WHATEVER THE INPUT: true; the input reads as it did. -/
def curveTellsSpec : ChangeSpec := { name := "curveTells", fn := fun _ => fun
  | [d1, d2, d3] => { results := [.lit (.bool true)], args := [d1, d2, d3] }
  | _ => none }
def curveTellsRow : OpenClaim := { program := "ytjfaadelhkjpfaa", sum := "a3ab3431a1135038954d8adbe119c23b92bec8c61b3b5f86556e1b6859f09c26", func := "strawloft/strawloftlaw.CurveTells", spec := "curveTells", apart := false }
def CurveTellsSaid : Prop := curveTellsRow.holds Try.pinned (OpenSpec.ofChange curveTellsSpec)

/-- ITS FALSE NEIGHBOUR: 'it returns false'. Refute it at one input. -/
def curveTellsWrong : ChangeSpec := { name := "curveTells", fn := fun _ => fun
  | [d1, d2, d3] => { results := [.lit (.bool false)], args := [d1, d2, d3] }
  | _ => none }
def CurveTellsWrongFalsely : Prop := curveTellsRow.holds Try.pinned (OpenSpec.ofChange curveTellsWrong)

/-- 'strawloftlaw.CurveThrough': WHATEVER THE INPUT: true; the input reads as it did. -/
def curveThroughSpec : ChangeSpec := { name := "curveThrough", fn := fun _ => fun
  | [d1, d2] => { results := [.lit (.bool true)], args := [d1, d2] }
  | _ => none }
def curveThroughRow : OpenClaim := { program := "ytjfaadelhkjpfaa", sum := "a3ab3431a1135038954d8adbe119c23b92bec8c61b3b5f86556e1b6859f09c26", func := "strawloft/strawloftlaw.CurveThrough", spec := "curveThrough", inPlace := ["internal/bytealg.IndexByte"], apart := false }
def CurveThroughSaid : Prop := curveThroughRow.holds Try.pinned (OpenSpec.ofChange curveThroughSpec)

/-- ITS FALSE NEIGHBOUR: 'it returns false'. Refute it at one input. -/
def curveThroughWrong : ChangeSpec := { name := "curveThrough", fn := fun _ => fun
  | [d1, d2] => { results := [.lit (.bool false)], args := [d1, d2] }
  | _ => none }
def CurveThroughWrongFalsely : Prop := curveThroughRow.holds Try.pinned (OpenSpec.ofChange curveThroughWrong)

/-- 'strawloftkeep.CurveValues': WHATEVER THE INPUT: true; the input reads as it did. -/
def curveValuesSpec : ChangeSpec := { name := "curveValues", fn := fun _ => fun
  | [d1, d2, d3] => { results := [.lit (.bool true)], args := [d1, d2, d3] }
  | _ => none }
def curveValuesRow : OpenClaim := { program := "ytjfaadelhkjpfaa", sum := "a3ab3431a1135038954d8adbe119c23b92bec8c61b3b5f86556e1b6859f09c26", func := "strawloft/strawloftkeep.CurveValues", spec := "curveValues", apart := false }
def CurveValuesSaid : Prop := curveValuesRow.holds Try.pinned (OpenSpec.ofChange curveValuesSpec)

/-- ITS FALSE NEIGHBOUR: 'it returns false'. Refute it at one input. -/
def curveValuesWrong : ChangeSpec := { name := "curveValues", fn := fun _ => fun
  | [d1, d2, d3] => { results := [.lit (.bool false)], args := [d1, d2, d3] }
  | _ => none }
def CurveValuesWrongFalsely : Prop := curveValuesRow.holds Try.pinned (OpenSpec.ofChange curveValuesWrong)

/-- 'strawloftkeep.CurveOne': WHATEVER THE INPUT: true; the input reads as it did. -/
def curveOneSpec : ChangeSpec := { name := "curveOne", fn := fun _ => fun
  | [d1, d2] => { results := [.lit (.bool true)], args := [d1, d2] }
  | _ => none }
def curveOneRow : OpenClaim := { program := "ytjfaadelhkjpfaa", sum := "a3ab3431a1135038954d8adbe119c23b92bec8c61b3b5f86556e1b6859f09c26", func := "strawloft/strawloftkeep.CurveOne", spec := "curveOne", apart := false }
def CurveOneSaid : Prop := curveOneRow.holds Try.pinned (OpenSpec.ofChange curveOneSpec)

/-- ITS FALSE NEIGHBOUR: 'it returns false'. Refute it at one input. -/
def curveOneWrong : ChangeSpec := { name := "curveOne", fn := fun _ => fun
  | [d1, d2] => { results := [.lit (.bool false)], args := [d1, d2] }
  | _ => none }
def CurveOneWrongFalsely : Prop := curveOneRow.holds Try.pinned (OpenSpec.ofChange curveOneWrong)

/-- 'strawloftkeep.CurveRoots': WHATEVER THE INPUT: true; the input reads as it did. -/
def curveRootsSpec : ChangeSpec := { name := "curveRoots", fn := fun _ => fun
  | [d] => { results := [.lit (.bool true)], args := [d] }
  | _ => none }
def curveRootsRow : OpenClaim := { program := "ytjfaadelhkjpfaa", sum := "a3ab3431a1135038954d8adbe119c23b92bec8c61b3b5f86556e1b6859f09c26", func := "strawloft/strawloftkeep.CurveRoots", spec := "curveRoots", apart := false }
def CurveRootsSaid : Prop := curveRootsRow.holds Try.pinned (OpenSpec.ofChange curveRootsSpec)

/-- ITS FALSE NEIGHBOUR: 'it returns false'. Refute it at one input. -/
def curveRootsWrong : ChangeSpec := { name := "curveRoots", fn := fun _ => fun
  | [d] => { results := [.lit (.bool false)], args := [d] }
  | _ => none }
def CurveRootsWrongFalsely : Prop := curveRootsRow.holds Try.pinned (OpenSpec.ofChange curveRootsWrong)

/-- 'strawloftkeep.CurveOrder': WHATEVER THE INPUT: true; the input reads as it did. -/
def curveOrderSpec : ChangeSpec := { name := "curveOrder", fn := fun _ => fun
  | [d1, d2] => { results := [.lit (.bool true)], args := [d1, d2] }
  | _ => none }
def curveOrderRow : OpenClaim := { program := "ytjfaadelhkjpfaa", sum := "a3ab3431a1135038954d8adbe119c23b92bec8c61b3b5f86556e1b6859f09c26", func := "strawloft/strawloftkeep.CurveOrder", spec := "curveOrder", unfollowed := true, recurses := true, apart := false }
def CurveOrderSaid : Prop := curveOrderRow.holds Try.pinned (OpenSpec.ofChange curveOrderSpec)

/-- ITS FALSE NEIGHBOUR: 'it returns false'. Refute it at one input. -/
def curveOrderWrong : ChangeSpec := { name := "curveOrder", fn := fun _ => fun
  | [d1, d2] => { results := [.lit (.bool false)], args := [d1, d2] }
  | _ => none }
def CurveOrderWrongFalsely : Prop := curveOrderRow.holds Try.pinned (OpenSpec.ofChange curveOrderWrong)

/- THE SECOND FORM. 'bulk': how many values and letters a reading holds, each counted each time it is reached (what is shared counts as often as it is met; a slice's spare places count too). A statement '..UptoSaid' is the law's where the arguments, and the package variables that the reading takes, are together of bulk at most 1048576: NARROWER than '..Said'. Prove '..Said' where nothing that the law and all that it calls make is longer than what came in: it says more and counts as full. Else prove '..UptoSaid'. A law counts once. -/
mutual
def uptoBulk {H : Type} : DataW H → Nat
  | .lit (.string bytes) => bytes.length + 1
  | .lit _ => 1
  | .nil => 1
  | .ptr d => uptoBulk d + 1
  | .slice elems spare => uptoBulkAll elems + uptoBulkAll spare + 1
  | .agg parts => uptoBulkAll parts + 1
  | .iface _ d => uptoBulk d + 1
  | .map entries => uptoBulkEntries entries + 1
  | .held _ => 1
def uptoBulkAll {H : Type} : List (DataW H) → Nat
  | [] => 0
  | d :: r => uptoBulk d + uptoBulkAll r
def uptoBulkEntries {H : Type} : List (Lit × DataW H) → Nat
  | [] => 0
  | x :: r => uptoBulkEntry x + uptoBulkEntries r
def uptoBulkEntry {H : Type} : Lit × DataW H → Nat
  | (.string bytes, d) => bytes.length + uptoBulk d + 1
  | (_, d) => uptoBulk d + 1
 end
def uptoSmall : (H : Type) → List (DataW H) → Bool := fun _ ds => decide (uptoBulkAll ds ≤ 1048576)
def OpenSpec.upto (s : _root_.Go.ChangeSpec) : _root_.Go.OpenSpec := { _root_.Go.OpenSpec.ofChange s with cond := some uptoSmall }

/-- 'strawloftlaw.CurveTells', WHERE WHAT IT READS IS OF BULK AT MOST 1048576: true; the input reads as it did. -/
def curveTellsUptoRow : OpenClaim := { program := "ytjfaadelhkjpfaa", sum := "a3ab3431a1135038954d8adbe119c23b92bec8c61b3b5f86556e1b6859f09c26", func := "strawloft/strawloftlaw.CurveTells", spec := "curveTells", apart := false, narrowed := true }
def CurveTellsUptoSaid : Prop := curveTellsUptoRow.holds Try.pinned (OpenSpec.upto curveTellsSpec)

/-- 'strawloftlaw.CurveThrough', WHERE WHAT IT READS IS OF BULK AT MOST 1048576: true; the input reads as it did. -/
def curveThroughUptoRow : OpenClaim := { program := "ytjfaadelhkjpfaa", sum := "a3ab3431a1135038954d8adbe119c23b92bec8c61b3b5f86556e1b6859f09c26", func := "strawloft/strawloftlaw.CurveThrough", spec := "curveThrough", inPlace := ["internal/bytealg.IndexByte"], apart := false, narrowed := true }
def CurveThroughUptoSaid : Prop := curveThroughUptoRow.holds Try.pinned (OpenSpec.upto curveThroughSpec)

/-- 'strawloftkeep.CurveValues', WHERE WHAT IT READS IS OF BULK AT MOST 1048576: true; the input reads as it did. -/
def curveValuesUptoRow : OpenClaim := { program := "ytjfaadelhkjpfaa", sum := "a3ab3431a1135038954d8adbe119c23b92bec8c61b3b5f86556e1b6859f09c26", func := "strawloft/strawloftkeep.CurveValues", spec := "curveValues", apart := false, narrowed := true }
def CurveValuesUptoSaid : Prop := curveValuesUptoRow.holds Try.pinned (OpenSpec.upto curveValuesSpec)

/-- 'strawloftkeep.CurveOne', WHERE WHAT IT READS IS OF BULK AT MOST 1048576: true; the input reads as it did. -/
def curveOneUptoRow : OpenClaim := { program := "ytjfaadelhkjpfaa", sum := "a3ab3431a1135038954d8adbe119c23b92bec8c61b3b5f86556e1b6859f09c26", func := "strawloft/strawloftkeep.CurveOne", spec := "curveOne", apart := false, narrowed := true }
def CurveOneUptoSaid : Prop := curveOneUptoRow.holds Try.pinned (OpenSpec.upto curveOneSpec)

/-- 'strawloftkeep.CurveRoots', WHERE WHAT IT READS IS OF BULK AT MOST 1048576: true; the input reads as it did. -/
def curveRootsUptoRow : OpenClaim := { program := "ytjfaadelhkjpfaa", sum := "a3ab3431a1135038954d8adbe119c23b92bec8c61b3b5f86556e1b6859f09c26", func := "strawloft/strawloftkeep.CurveRoots", spec := "curveRoots", apart := false, narrowed := true }
def CurveRootsUptoSaid : Prop := curveRootsUptoRow.holds Try.pinned (OpenSpec.upto curveRootsSpec)

/-- 'strawloftkeep.CurveOrder', WHERE WHAT IT READS IS OF BULK AT MOST 1048576: true; the input reads as it did. -/
def curveOrderUptoRow : OpenClaim := { program := "ytjfaadelhkjpfaa", sum := "a3ab3431a1135038954d8adbe119c23b92bec8c61b3b5f86556e1b6859f09c26", func := "strawloft/strawloftkeep.CurveOrder", spec := "curveOrder", unfollowed := true, recurses := true, apart := false, narrowed := true }
def CurveOrderUptoSaid : Prop := curveOrderUptoRow.holds Try.pinned (OpenSpec.upto curveOrderSpec)

end Rows
end Go.Proofs.Ytjfaadelhkjpfaa
