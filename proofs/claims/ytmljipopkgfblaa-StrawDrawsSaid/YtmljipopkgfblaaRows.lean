/-
  No cell of these rows narrows 'for every input' (looked for: loops, veiled, ifaces, maps, wideKeys, modest, calm, conditions, laid).
  DERIVED. THE GIVEN ROWS OF THIS SEAT. 5 by the template 'for every input the law returns true; each argument reads behind the call as it read before'; 0 by the template 'total and deterministic' (their statements: YtmljipopkgfblaaTotals.lean).
  GIVEN WITH THE SEED: the statements are not yours to turn. If you find one false, say at which input.
  Laid BY PROGRAM, IN A SANDBOX (cutbox-rows.mjs): the forced cells as the released guide's own fill.sh prints them over the translation a9a8076556ec76a8… (all of the seat's roots in one cut). By AI agents, Wed Nov 11 2026. No macro, syntax, notation, axiom, sorry.
-/
import Derived.Test.YtmljipopkgfblaaChecked
import GoSem.Claim
import GoSem.ClaimJoined
import GoSem.ClaimMapViews
import Derived.JoinedTies
import Derived.KernelRfl
namespace Go.Proofs.Ytmljipopkgfblaa
/- THE CELL 'sum', in the pinned program and in every row, IS THE sha256 OF THE DUMP (.gsa) THAT YtmljipopkgfblaaProg.lean LOADS. Nothing in Lean hashes anything: it is a label: what it is worth is what the hold of that sum in a sandbox is worth. -/
noncomputable def Try.pinned : Pinned := { name := "ytmljipopkgfblaa", sum := "a9a8076556ec76a89199d65ac40b5df4ada488fad2d27ae7cbd7e2f5cdcf5334", checked := Try.checked }
namespace Rows
def none {H : Type} : Left H := { results := [], args := [] }

/-- 'strawloftlaw.StrawDraws': WHATEVER THE INPUT: true; the input reads as it did. -/
def strawDrawsSpec : ChangeSpec := { name := "strawDraws", fn := fun _ => fun
  | [d1, d2, d3, d4] => { results := [.lit (.bool true)], args := [d1, d2, d3, d4] }
  | _ => none }
def strawDrawsRow : OpenClaim := { program := "ytmljipopkgfblaa", sum := "a9a8076556ec76a89199d65ac40b5df4ada488fad2d27ae7cbd7e2f5cdcf5334", func := "strawloft/strawloftlaw.StrawDraws", spec := "strawDraws", unfollowed := true, recurses := true, apart := false }
def StrawDrawsSaid : Prop := strawDrawsRow.holds Try.pinned (OpenSpec.ofChange strawDrawsSpec)

/-- ITS FALSE NEIGHBOUR: 'it returns false'. Refute it at one input. -/
def strawDrawsWrong : ChangeSpec := { name := "strawDraws", fn := fun _ => fun
  | [d1, d2, d3, d4] => { results := [.lit (.bool false)], args := [d1, d2, d3, d4] }
  | _ => none }
def StrawDrawsWrongFalsely : Prop := strawDrawsRow.holds Try.pinned (OpenSpec.ofChange strawDrawsWrong)

/-- 'strawloftkeep.StrawGone': WHATEVER THE INPUT: true; the input reads as it did. -/
def strawGoneSpec : ChangeSpec := { name := "strawGone", fn := fun _ => fun
  | [d1, d2, d3, d4] => { results := [.lit (.bool true)], args := [d1, d2, d3, d4] }
  | _ => none }
def strawGoneRow : OpenClaim := { program := "ytmljipopkgfblaa", sum := "a9a8076556ec76a89199d65ac40b5df4ada488fad2d27ae7cbd7e2f5cdcf5334", func := "strawloft/strawloftkeep.StrawGone", spec := "strawGone", unfollowed := true, recurses := true, apart := false }
def StrawGoneSaid : Prop := strawGoneRow.holds Try.pinned (OpenSpec.ofChange strawGoneSpec)

/-- ITS FALSE NEIGHBOUR: 'it returns false'. Refute it at one input. -/
def strawGoneWrong : ChangeSpec := { name := "strawGone", fn := fun _ => fun
  | [d1, d2, d3, d4] => { results := [.lit (.bool false)], args := [d1, d2, d3, d4] }
  | _ => none }
def StrawGoneWrongFalsely : Prop := strawGoneRow.holds Try.pinned (OpenSpec.ofChange strawGoneWrong)

/-- 'strawloftkeep.StrawMore': WHATEVER THE INPUT: true; the input reads as it did. -/
def strawMoreSpec : ChangeSpec := { name := "strawMore", fn := fun _ => fun
  | [d1, d2, d3, d4] => { results := [.lit (.bool true)], args := [d1, d2, d3, d4] }
  | _ => none }
def strawMoreRow : OpenClaim := { program := "ytmljipopkgfblaa", sum := "a9a8076556ec76a89199d65ac40b5df4ada488fad2d27ae7cbd7e2f5cdcf5334", func := "strawloft/strawloftkeep.StrawMore", spec := "strawMore", unfollowed := true, recurses := true, apart := false }
def StrawMoreSaid : Prop := strawMoreRow.holds Try.pinned (OpenSpec.ofChange strawMoreSpec)

/-- ITS FALSE NEIGHBOUR: 'it returns false'. Refute it at one input. -/
def strawMoreWrong : ChangeSpec := { name := "strawMore", fn := fun _ => fun
  | [d1, d2, d3, d4] => { results := [.lit (.bool false)], args := [d1, d2, d3, d4] }
  | _ => none }
def StrawMoreWrongFalsely : Prop := strawMoreRow.holds Try.pinned (OpenSpec.ofChange strawMoreWrong)

/-- 'strawloftkeep.StrawOrder': WHATEVER THE INPUT: true; the input reads as it did. -/
def strawOrderSpec : ChangeSpec := { name := "strawOrder", fn := fun _ => fun
  | [d1, d2, d3] => { results := [.lit (.bool true)], args := [d1, d2, d3] }
  | _ => none }
def strawOrderRow : OpenClaim := { program := "ytmljipopkgfblaa", sum := "a9a8076556ec76a89199d65ac40b5df4ada488fad2d27ae7cbd7e2f5cdcf5334", func := "strawloft/strawloftkeep.StrawOrder", spec := "strawOrder", unfollowed := true, recurses := true, apart := false }
def StrawOrderSaid : Prop := strawOrderRow.holds Try.pinned (OpenSpec.ofChange strawOrderSpec)

/-- ITS FALSE NEIGHBOUR: 'it returns false'. Refute it at one input. -/
def strawOrderWrong : ChangeSpec := { name := "strawOrder", fn := fun _ => fun
  | [d1, d2, d3] => { results := [.lit (.bool false)], args := [d1, d2, d3] }
  | _ => none }
def StrawOrderWrongFalsely : Prop := strawOrderRow.holds Try.pinned (OpenSpec.ofChange strawOrderWrong)

/-- 'strawloftkeep.StrawScale': WHATEVER THE INPUT: true; the input reads as it did. -/
def strawScaleSpec : ChangeSpec := { name := "strawScale", fn := fun _ => fun
  | [d1, d2, d3, d4] => { results := [.lit (.bool true)], args := [d1, d2, d3, d4] }
  | _ => none }
def strawScaleRow : OpenClaim := { program := "ytmljipopkgfblaa", sum := "a9a8076556ec76a89199d65ac40b5df4ada488fad2d27ae7cbd7e2f5cdcf5334", func := "strawloft/strawloftkeep.StrawScale", spec := "strawScale", unfollowed := true, recurses := true, apart := false }
def StrawScaleSaid : Prop := strawScaleRow.holds Try.pinned (OpenSpec.ofChange strawScaleSpec)

/-- ITS FALSE NEIGHBOUR: 'it returns false'. Refute it at one input. -/
def strawScaleWrong : ChangeSpec := { name := "strawScale", fn := fun _ => fun
  | [d1, d2, d3, d4] => { results := [.lit (.bool false)], args := [d1, d2, d3, d4] }
  | _ => none }
def StrawScaleWrongFalsely : Prop := strawScaleRow.holds Try.pinned (OpenSpec.ofChange strawScaleWrong)

/- THE SECOND FORM. 'bulk': how many values and letters a reading holds, each counted each time it is reached (what is shared counts as often as it is met; a slice's spare places count too). A statement '..UptoSaid' is the law's where the arguments, and the package variables that the reading takes, are together of bulk at most 1048576: NARROWER than '..Said'. Prove '..Said' where nothing that the law and all that it calls make is longer than what came in: it says more and counts as full. Else prove '..UptoSaid'. A law counts once. -/
mutual
def uptoBulk {H : Type} : DataW H → Nat
  | .lit (.string bytes) => bytes.length + 1
  | .lit _ => 1
  | .nil => 1
  | .ptr d => uptoBulk d + 1
  | .slice elems spare => uptoBulkAll elems + uptoBulkAll spare + 1
  | .agg parts => uptoBulkAll parts + 1
  | .iface _ d => uptoBulk d + 1
  | .map entries => uptoBulkEntries entries + 1
  | .held _ => 1
def uptoBulkAll {H : Type} : List (DataW H) → Nat
  | [] => 0
  | d :: r => uptoBulk d + uptoBulkAll r
def uptoBulkEntries {H : Type} : List (Lit × DataW H) → Nat
  | [] => 0
  | x :: r => uptoBulkEntry x + uptoBulkEntries r
def uptoBulkEntry {H : Type} : Lit × DataW H → Nat
  | (.string bytes, d) => bytes.length + uptoBulk d + 1
  | (_, d) => uptoBulk d + 1
 end
def uptoSmall : (H : Type) → List (DataW H) → Bool := fun _ ds => decide (uptoBulkAll ds ≤ 1048576)
def OpenSpec.upto (s : _root_.Go.ChangeSpec) : _root_.Go.OpenSpec := { _root_.Go.OpenSpec.ofChange s with cond := some uptoSmall }

/-- 'strawloftlaw.StrawDraws', WHERE WHAT IT READS IS OF BULK AT MOST 1048576: true; the input reads as it did. -/
def strawDrawsUptoRow : OpenClaim := { program := "ytmljipopkgfblaa", sum := "a9a8076556ec76a89199d65ac40b5df4ada488fad2d27ae7cbd7e2f5cdcf5334", func := "strawloft/strawloftlaw.StrawDraws", spec := "strawDraws", unfollowed := true, recurses := true, apart := false, narrowed := true }
def StrawDrawsUptoSaid : Prop := strawDrawsUptoRow.holds Try.pinned (OpenSpec.upto strawDrawsSpec)

/-- 'strawloftkeep.StrawGone', WHERE WHAT IT READS IS OF BULK AT MOST 1048576: true; the input reads as it did. -/
def strawGoneUptoRow : OpenClaim := { program := "ytmljipopkgfblaa", sum := "a9a8076556ec76a89199d65ac40b5df4ada488fad2d27ae7cbd7e2f5cdcf5334", func := "strawloft/strawloftkeep.StrawGone", spec := "strawGone", unfollowed := true, recurses := true, apart := false, narrowed := true }
def StrawGoneUptoSaid : Prop := strawGoneUptoRow.holds Try.pinned (OpenSpec.upto strawGoneSpec)

/-- 'strawloftkeep.StrawMore', WHERE WHAT IT READS IS OF BULK AT MOST 1048576: true; the input reads as it did. -/
def strawMoreUptoRow : OpenClaim := { program := "ytmljipopkgfblaa", sum := "a9a8076556ec76a89199d65ac40b5df4ada488fad2d27ae7cbd7e2f5cdcf5334", func := "strawloft/strawloftkeep.StrawMore", spec := "strawMore", unfollowed := true, recurses := true, apart := false, narrowed := true }
def StrawMoreUptoSaid : Prop := strawMoreUptoRow.holds Try.pinned (OpenSpec.upto strawMoreSpec)

/-- 'strawloftkeep.StrawOrder', WHERE WHAT IT READS IS OF BULK AT MOST 1048576: true; the input reads as it did. -/
def strawOrderUptoRow : OpenClaim := { program := "ytmljipopkgfblaa", sum := "a9a8076556ec76a89199d65ac40b5df4ada488fad2d27ae7cbd7e2f5cdcf5334", func := "strawloft/strawloftkeep.StrawOrder", spec := "strawOrder", unfollowed := true, recurses := true, apart := false, narrowed := true }
def StrawOrderUptoSaid : Prop := strawOrderUptoRow.holds Try.pinned (OpenSpec.upto strawOrderSpec)

/-- 'strawloftkeep.StrawScale', WHERE WHAT IT READS IS OF BULK AT MOST 1048576: true; the input reads as it did. -/
def strawScaleUptoRow : OpenClaim := { program := "ytmljipopkgfblaa", sum := "a9a8076556ec76a89199d65ac40b5df4ada488fad2d27ae7cbd7e2f5cdcf5334", func := "strawloft/strawloftkeep.StrawScale", spec := "strawScale", unfollowed := true, recurses := true, apart := false, narrowed := true }
def StrawScaleUptoSaid : Prop := strawScaleUptoRow.holds Try.pinned (OpenSpec.upto strawScaleSpec)

end Rows
end Go.Proofs.Ytmljipopkgfblaa
