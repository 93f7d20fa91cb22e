/-
  No cell of these rows narrows 'for every input' (looked for: loops, veiled, ifaces, maps, wideKeys, modest, calm, conditions, laid).
  DERIVED. THE GIVEN ROWS OF THIS SEAT. 5 by the template 'for every input the law returns true; each argument reads behind the call as it read before'; 0 by the template 'total and deterministic' (their statements: YtkflngdahnpmbaaTotals.lean).
  GIVEN WITH THE SEED: the statements are not yours to turn. If you find one false, say at which input.
  Laid BY PROGRAM, IN A SANDBOX (cutbox-rows.mjs): the forced cells as the released guide's own fill.sh prints them over the translation 8cb4266a50800d0a… (all of the seat's roots in one cut). By AI agents, Wed Nov 11 2026. No macro, syntax, notation, axiom, sorry.
-/
import Derived.Test.YtkflngdahnpmbaaChecked
import GoSem.Claim
import GoSem.ClaimJoined
import GoSem.ClaimMapViews
import Derived.JoinedTies
import Derived.KernelRfl
namespace Go.Proofs.Ytkflngdahnpmbaa
/- THE CELL 'sum', in the pinned program and in every row, IS THE sha256 OF THE DUMP (.gsa) THAT YtkflngdahnpmbaaProg.lean LOADS. Nothing in Lean hashes anything: it is a label: what it is worth is what the hold of that sum in a sandbox is worth. -/
noncomputable def Try.pinned : Pinned := { name := "ytkflngdahnpmbaa", sum := "8cb4266a50800d0ae5746f2c7c3d9984f24ee8fe50ea0341fdbba42016d47ba9", checked := Try.checked }
namespace Rows
def none {H : Type} : Left H := { results := [], args := [] }

/-- 'strawloftlaw.VectorTells': WHATEVER THE INPUT: true; the input reads as it did. -/
def vectorTellsSpec : ChangeSpec := { name := "vectorTells", fn := fun _ => fun
  | [d1, d2, d3, d4] => { results := [.lit (.bool true)], args := [d1, d2, d3, d4] }
  | _ => none }
def vectorTellsRow : OpenClaim := { program := "ytkflngdahnpmbaa", sum := "8cb4266a50800d0ae5746f2c7c3d9984f24ee8fe50ea0341fdbba42016d47ba9", func := "strawloft/strawloftlaw.VectorTells", spec := "vectorTells", unfollowed := true, recurses := true, apart := false }
def VectorTellsSaid : Prop := vectorTellsRow.holds Try.pinned (OpenSpec.ofChange vectorTellsSpec)

/-- ITS FALSE NEIGHBOUR: 'it returns false'. Refute it at one input. -/
def vectorTellsWrong : ChangeSpec := { name := "vectorTells", fn := fun _ => fun
  | [d1, d2, d3, d4] => { results := [.lit (.bool false)], args := [d1, d2, d3, d4] }
  | _ => none }
def VectorTellsWrongFalsely : Prop := vectorTellsRow.holds Try.pinned (OpenSpec.ofChange vectorTellsWrong)

/-- 'strawloftkeep.VectorJoin': WHATEVER THE INPUT: true; the input reads as it did. -/
def vectorJoinSpec : ChangeSpec := { name := "vectorJoin", fn := fun _ => fun
  | [d1, d2, d3] => { results := [.lit (.bool true)], args := [d1, d2, d3] }
  | _ => none }
def vectorJoinRow : OpenClaim := { program := "ytkflngdahnpmbaa", sum := "8cb4266a50800d0ae5746f2c7c3d9984f24ee8fe50ea0341fdbba42016d47ba9", func := "strawloft/strawloftkeep.VectorJoin", spec := "vectorJoin", unfollowed := true, recurses := true, apart := false }
def VectorJoinSaid : Prop := vectorJoinRow.holds Try.pinned (OpenSpec.ofChange vectorJoinSpec)

/-- ITS FALSE NEIGHBOUR: 'it returns false'. Refute it at one input. -/
def vectorJoinWrong : ChangeSpec := { name := "vectorJoin", fn := fun _ => fun
  | [d1, d2, d3] => { results := [.lit (.bool false)], args := [d1, d2, d3] }
  | _ => none }
def VectorJoinWrongFalsely : Prop := vectorJoinRow.holds Try.pinned (OpenSpec.ofChange vectorJoinWrong)

/-- 'strawloftkeep.VectorOrder': WHATEVER THE INPUT: true; the input reads as it did. -/
def vectorOrderSpec : ChangeSpec := { name := "vectorOrder", fn := fun _ => fun
  | [d1, d2, d3] => { results := [.lit (.bool true)], args := [d1, d2, d3] }
  | _ => none }
def vectorOrderRow : OpenClaim := { program := "ytkflngdahnpmbaa", sum := "8cb4266a50800d0ae5746f2c7c3d9984f24ee8fe50ea0341fdbba42016d47ba9", func := "strawloft/strawloftkeep.VectorOrder", spec := "vectorOrder", unfollowed := true, recurses := true, apart := false }
def VectorOrderSaid : Prop := vectorOrderRow.holds Try.pinned (OpenSpec.ofChange vectorOrderSpec)

/-- ITS FALSE NEIGHBOUR: 'it returns false'. Refute it at one input. -/
def vectorOrderWrong : ChangeSpec := { name := "vectorOrder", fn := fun _ => fun
  | [d1, d2, d3] => { results := [.lit (.bool false)], args := [d1, d2, d3] }
  | _ => none }
def VectorOrderWrongFalsely : Prop := vectorOrderRow.holds Try.pinned (OpenSpec.ofChange vectorOrderWrong)

/-- 'strawloftkeep.VectorTick': WHATEVER THE INPUT: true; the input reads as it did. -/
def vectorTickSpec : ChangeSpec := { name := "vectorTick", fn := fun _ => fun
  | [d1, d2, d3] => { results := [.lit (.bool true)], args := [d1, d2, d3] }
  | _ => none }
def vectorTickRow : OpenClaim := { program := "ytkflngdahnpmbaa", sum := "8cb4266a50800d0ae5746f2c7c3d9984f24ee8fe50ea0341fdbba42016d47ba9", func := "strawloft/strawloftkeep.VectorTick", spec := "vectorTick", unfollowed := true, recurses := true, apart := false }
def VectorTickSaid : Prop := vectorTickRow.holds Try.pinned (OpenSpec.ofChange vectorTickSpec)

/-- ITS FALSE NEIGHBOUR: 'it returns false'. Refute it at one input. -/
def vectorTickWrong : ChangeSpec := { name := "vectorTick", fn := fun _ => fun
  | [d1, d2, d3] => { results := [.lit (.bool false)], args := [d1, d2, d3] }
  | _ => none }
def VectorTickWrongFalsely : Prop := vectorTickRow.holds Try.pinned (OpenSpec.ofChange vectorTickWrong)

/-- 'strawloftkeep.VectorNewest': WHATEVER THE INPUT: true; the input reads as it did. -/
def vectorNewestSpec : ChangeSpec := { name := "vectorNewest", fn := fun _ => fun
  | [d] => { results := [.lit (.bool true)], args := [d] }
  | _ => none }
def vectorNewestRow : OpenClaim := { program := "ytkflngdahnpmbaa", sum := "8cb4266a50800d0ae5746f2c7c3d9984f24ee8fe50ea0341fdbba42016d47ba9", func := "strawloft/strawloftkeep.VectorNewest", spec := "vectorNewest", unfollowed := true, recurses := true, apart := false }
def VectorNewestSaid : Prop := vectorNewestRow.holds Try.pinned (OpenSpec.ofChange vectorNewestSpec)

/-- ITS FALSE NEIGHBOUR: 'it returns false'. Refute it at one input. -/
def vectorNewestWrong : ChangeSpec := { name := "vectorNewest", fn := fun _ => fun
  | [d] => { results := [.lit (.bool false)], args := [d] }
  | _ => none }
def VectorNewestWrongFalsely : Prop := vectorNewestRow.holds Try.pinned (OpenSpec.ofChange vectorNewestWrong)

/- THE SECOND FORM. 'bulk': how many values and letters a reading holds, each counted each time it is reached (what is shared counts as often as it is met; a slice's spare places count too). A statement '..UptoSaid' is the law's where the arguments, and the package variables that the reading takes, are together of bulk at most 1048576: NARROWER than '..Said'. Prove '..Said' where nothing that the law and all that it calls make is longer than what came in: it says more and counts as full. Else prove '..UptoSaid'. A law counts once. -/
mutual
def uptoBulk {H : Type} : DataW H → Nat
  | .lit (.string bytes) => bytes.length + 1
  | .lit _ => 1
  | .nil => 1
  | .ptr d => uptoBulk d + 1
  | .slice elems spare => uptoBulkAll elems + uptoBulkAll spare + 1
  | .agg parts => uptoBulkAll parts + 1
  | .iface _ d => uptoBulk d + 1
  | .map entries => uptoBulkEntries entries + 1
  | .held _ => 1
def uptoBulkAll {H : Type} : List (DataW H) → Nat
  | [] => 0
  | d :: r => uptoBulk d + uptoBulkAll r
def uptoBulkEntries {H : Type} : List (Lit × DataW H) → Nat
  | [] => 0
  | x :: r => uptoBulkEntry x + uptoBulkEntries r
def uptoBulkEntry {H : Type} : Lit × DataW H → Nat
  | (.string bytes, d) => bytes.length + uptoBulk d + 1
  | (_, d) => uptoBulk d + 1
 end
def uptoSmall : (H : Type) → List (DataW H) → Bool := fun _ ds => decide (uptoBulkAll ds ≤ 1048576)
def OpenSpec.upto (s : _root_.Go.ChangeSpec) : _root_.Go.OpenSpec := { _root_.Go.OpenSpec.ofChange s with cond := some uptoSmall }

/-- 'strawloftlaw.VectorTells', WHERE WHAT IT READS IS OF BULK AT MOST 1048576: true; the input reads as it did. -/
def vectorTellsUptoRow : OpenClaim := { program := "ytkflngdahnpmbaa", sum := "8cb4266a50800d0ae5746f2c7c3d9984f24ee8fe50ea0341fdbba42016d47ba9", func := "strawloft/strawloftlaw.VectorTells", spec := "vectorTells", unfollowed := true, recurses := true, apart := false, narrowed := true }
def VectorTellsUptoSaid : Prop := vectorTellsUptoRow.holds Try.pinned (OpenSpec.upto vectorTellsSpec)

/-- 'strawloftkeep.VectorJoin', WHERE WHAT IT READS IS OF BULK AT MOST 1048576: true; the input reads as it did. -/
def vectorJoinUptoRow : OpenClaim := { program := "ytkflngdahnpmbaa", sum := "8cb4266a50800d0ae5746f2c7c3d9984f24ee8fe50ea0341fdbba42016d47ba9", func := "strawloft/strawloftkeep.VectorJoin", spec := "vectorJoin", unfollowed := true, recurses := true, apart := false, narrowed := true }
def VectorJoinUptoSaid : Prop := vectorJoinUptoRow.holds Try.pinned (OpenSpec.upto vectorJoinSpec)

/-- 'strawloftkeep.VectorOrder', WHERE WHAT IT READS IS OF BULK AT MOST 1048576: true; the input reads as it did. -/
def vectorOrderUptoRow : OpenClaim := { program := "ytkflngdahnpmbaa", sum := "8cb4266a50800d0ae5746f2c7c3d9984f24ee8fe50ea0341fdbba42016d47ba9", func := "strawloft/strawloftkeep.VectorOrder", spec := "vectorOrder", unfollowed := true, recurses := true, apart := false, narrowed := true }
def VectorOrderUptoSaid : Prop := vectorOrderUptoRow.holds Try.pinned (OpenSpec.upto vectorOrderSpec)

/-- 'strawloftkeep.VectorTick', WHERE WHAT IT READS IS OF BULK AT MOST 1048576: true; the input reads as it did. -/
def vectorTickUptoRow : OpenClaim := { program := "ytkflngdahnpmbaa", sum := "8cb4266a50800d0ae5746f2c7c3d9984f24ee8fe50ea0341fdbba42016d47ba9", func := "strawloft/strawloftkeep.VectorTick", spec := "vectorTick", unfollowed := true, recurses := true, apart := false, narrowed := true }
def VectorTickUptoSaid : Prop := vectorTickUptoRow.holds Try.pinned (OpenSpec.upto vectorTickSpec)

/-- 'strawloftkeep.VectorNewest', WHERE WHAT IT READS IS OF BULK AT MOST 1048576: true; the input reads as it did. -/
def vectorNewestUptoRow : OpenClaim := { program := "ytkflngdahnpmbaa", sum := "8cb4266a50800d0ae5746f2c7c3d9984f24ee8fe50ea0341fdbba42016d47ba9", func := "strawloft/strawloftkeep.VectorNewest", spec := "vectorNewest", unfollowed := true, recurses := true, apart := false, narrowed := true }
def VectorNewestUptoSaid : Prop := vectorNewestUptoRow.holds Try.pinned (OpenSpec.upto vectorNewestSpec)

end Rows
end Go.Proofs.Ytkflngdahnpmbaa
