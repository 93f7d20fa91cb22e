/-
  No cell of these rows narrows 'for every input' (looked for: loops, veiled, ifaces, maps, wideKeys, modest, calm, conditions, laid).
  DERIVED. THE GIVEN ROWS OF THIS SEAT. 6 by the template 'for every input the law returns true; each argument reads behind the call as it read before'; 0 by the template 'total and deterministic' (their statements: YtcbecpgllebepaaTotals.lean).
  GIVEN WITH THE SEED: the statements are not yours to turn. If you find one false, say at which input.
  Laid BY PROGRAM, IN A SANDBOX (cutbox-rows.mjs): the forced cells as the released guide's own fill.sh prints them over the translation da6411a115791e8e… (all of the seat's roots in one cut). By AI agents, Wed Nov 11 2026. No macro, syntax, notation, axiom, sorry.
-/
import Derived.Test.YtcbecpgllebepaaChecked
import GoSem.Claim
import GoSem.ClaimJoined
import GoSem.ClaimMapViews
import Derived.JoinedTies
import Derived.KernelRfl
namespace Go.Proofs.Ytcbecpgllebepaa
/- THE CELL 'sum', in the pinned program and in every row, IS THE sha256 OF THE DUMP (.gsa) THAT YtcbecpgllebepaaProg.lean LOADS. Nothing in Lean hashes anything: it is a label: what it is worth is what the hold of that sum in a sandbox is worth. -/
noncomputable def Try.pinned : Pinned := { name := "ytcbecpgllebepaa", sum := "da6411a115791e8e06d8a1cda6038ac5c2380954aa4656853c937d5b325df594", checked := Try.checked }
namespace Rows
def none {H : Type} : Left H := { results := [], args := [] }

/-- 'strawloftlaw.CrushPlaces': WHATEVER THE INPUT: true; the input reads as it did. -/
def crushPlacesSpec : ChangeSpec := { name := "crushPlaces", fn := fun _ => fun
  | [d1, d2, d3] => { results := [.lit (.bool true)], args := [d1, d2, d3] }
  | _ => none }
def crushPlacesRow : OpenClaim := { program := "ytcbecpgllebepaa", sum := "da6411a115791e8e06d8a1cda6038ac5c2380954aa4656853c937d5b325df594", func := "strawloft/strawloftlaw.CrushPlaces", spec := "crushPlaces", unfollowed := true, recurses := true, apart := false }
def CrushPlacesSaid : Prop := crushPlacesRow.holds Try.pinned (OpenSpec.ofChange crushPlacesSpec)

/-- ITS FALSE NEIGHBOUR: 'it returns false'. Refute it at one input. -/
def crushPlacesWrong : ChangeSpec := { name := "crushPlaces", fn := fun _ => fun
  | [d1, d2, d3] => { results := [.lit (.bool false)], args := [d1, d2, d3] }
  | _ => none }
def CrushPlacesWrongFalsely : Prop := crushPlacesRow.holds Try.pinned (OpenSpec.ofChange crushPlacesWrong)

/-- 'strawloftlaw.CrushMoves': WHATEVER THE INPUT: true; the input reads as it did. -/
def crushMovesSpec : ChangeSpec := { name := "crushMoves", fn := fun _ => fun
  | [d1, d2, d3, d4] => { results := [.lit (.bool true)], args := [d1, d2, d3, d4] }
  | _ => none }
def crushMovesRow : OpenClaim := { program := "ytcbecpgllebepaa", sum := "da6411a115791e8e06d8a1cda6038ac5c2380954aa4656853c937d5b325df594", func := "strawloft/strawloftlaw.CrushMoves", spec := "crushMoves", unfollowed := true, recurses := true, apart := false }
def CrushMovesSaid : Prop := crushMovesRow.holds Try.pinned (OpenSpec.ofChange crushMovesSpec)

/-- ITS FALSE NEIGHBOUR: 'it returns false'. Refute it at one input. -/
def crushMovesWrong : ChangeSpec := { name := "crushMoves", fn := fun _ => fun
  | [d1, d2, d3, d4] => { results := [.lit (.bool false)], args := [d1, d2, d3, d4] }
  | _ => none }
def CrushMovesWrongFalsely : Prop := crushMovesRow.holds Try.pinned (OpenSpec.ofChange crushMovesWrong)

/-- 'strawloftkeep.CrushApart': WHATEVER THE INPUT: true; the input reads as it did. -/
def crushApartSpec : ChangeSpec := { name := "crushApart", fn := fun _ => fun
  | [d1, d2, d3] => { results := [.lit (.bool true)], args := [d1, d2, d3] }
  | _ => none }
def crushApartRow : OpenClaim := { program := "ytcbecpgllebepaa", sum := "da6411a115791e8e06d8a1cda6038ac5c2380954aa4656853c937d5b325df594", func := "strawloft/strawloftkeep.CrushApart", spec := "crushApart", unfollowed := true, recurses := true, apart := false }
def CrushApartSaid : Prop := crushApartRow.holds Try.pinned (OpenSpec.ofChange crushApartSpec)

/-- ITS FALSE NEIGHBOUR: 'it returns false'. Refute it at one input. -/
def crushApartWrong : ChangeSpec := { name := "crushApart", fn := fun _ => fun
  | [d1, d2, d3] => { results := [.lit (.bool false)], args := [d1, d2, d3] }
  | _ => none }
def CrushApartWrongFalsely : Prop := crushApartRow.holds Try.pinned (OpenSpec.ofChange crushApartWrong)

/-- 'strawloftkeep.CrushGone': WHATEVER THE INPUT: true; the input reads as it did. -/
def crushGoneSpec : ChangeSpec := { name := "crushGone", fn := fun _ => fun
  | [d1, d2, d3, d4] => { results := [.lit (.bool true)], args := [d1, d2, d3, d4] }
  | _ => none }
def crushGoneRow : OpenClaim := { program := "ytcbecpgllebepaa", sum := "da6411a115791e8e06d8a1cda6038ac5c2380954aa4656853c937d5b325df594", func := "strawloft/strawloftkeep.CrushGone", spec := "crushGone", unfollowed := true, recurses := true, apart := false }
def CrushGoneSaid : Prop := crushGoneRow.holds Try.pinned (OpenSpec.ofChange crushGoneSpec)

/-- ITS FALSE NEIGHBOUR: 'it returns false'. Refute it at one input. -/
def crushGoneWrong : ChangeSpec := { name := "crushGone", fn := fun _ => fun
  | [d1, d2, d3, d4] => { results := [.lit (.bool false)], args := [d1, d2, d3, d4] }
  | _ => none }
def CrushGoneWrongFalsely : Prop := crushGoneRow.holds Try.pinned (OpenSpec.ofChange crushGoneWrong)

/-- 'strawloftkeep.CrushNew': WHATEVER THE INPUT: true; the input reads as it did. -/
def crushNewSpec : ChangeSpec := { name := "crushNew", fn := fun _ => fun
  | [d1, d2, d3, d4] => { results := [.lit (.bool true)], args := [d1, d2, d3, d4] }
  | _ => none }
def crushNewRow : OpenClaim := { program := "ytcbecpgllebepaa", sum := "da6411a115791e8e06d8a1cda6038ac5c2380954aa4656853c937d5b325df594", func := "strawloft/strawloftkeep.CrushNew", spec := "crushNew", unfollowed := true, recurses := true, apart := false }
def CrushNewSaid : Prop := crushNewRow.holds Try.pinned (OpenSpec.ofChange crushNewSpec)

/-- ITS FALSE NEIGHBOUR: 'it returns false'. Refute it at one input. -/
def crushNewWrong : ChangeSpec := { name := "crushNew", fn := fun _ => fun
  | [d1, d2, d3, d4] => { results := [.lit (.bool false)], args := [d1, d2, d3, d4] }
  | _ => none }
def CrushNewWrongFalsely : Prop := crushNewRow.holds Try.pinned (OpenSpec.ofChange crushNewWrong)

/-- 'strawloftkeep.CrushInner': WHATEVER THE INPUT: true; the input reads as it did. -/
def crushInnerSpec : ChangeSpec := { name := "crushInner", fn := fun _ => fun
  | [d1, d2, d3, d4, d5, d6] => { results := [.lit (.bool true)], args := [d1, d2, d3, d4, d5, d6] }
  | _ => none }
def crushInnerRow : OpenClaim := { program := "ytcbecpgllebepaa", sum := "da6411a115791e8e06d8a1cda6038ac5c2380954aa4656853c937d5b325df594", func := "strawloft/strawloftkeep.CrushInner", spec := "crushInner", unfollowed := true, recurses := true, apart := false }
def CrushInnerSaid : Prop := crushInnerRow.holds Try.pinned (OpenSpec.ofChange crushInnerSpec)

/-- ITS FALSE NEIGHBOUR: 'it returns false'. Refute it at one input. -/
def crushInnerWrong : ChangeSpec := { name := "crushInner", fn := fun _ => fun
  | [d1, d2, d3, d4, d5, d6] => { results := [.lit (.bool false)], args := [d1, d2, d3, d4, d5, d6] }
  | _ => none }
def CrushInnerWrongFalsely : Prop := crushInnerRow.holds Try.pinned (OpenSpec.ofChange crushInnerWrong)

/- THE SECOND FORM. 'bulk': how many values and letters a reading holds, each counted each time it is reached (what is shared counts as often as it is met; a slice's spare places count too). A statement '..UptoSaid' is the law's where the arguments, and the package variables that the reading takes, are together of bulk at most 1048576: NARROWER than '..Said'. Prove '..Said' where nothing that the law and all that it calls make is longer than what came in: it says more and counts as full. Else prove '..UptoSaid'. A law counts once. -/
mutual
def uptoBulk {H : Type} : DataW H → Nat
  | .lit (.string bytes) => bytes.length + 1
  | .lit _ => 1
  | .nil => 1
  | .ptr d => uptoBulk d + 1
  | .slice elems spare => uptoBulkAll elems + uptoBulkAll spare + 1
  | .agg parts => uptoBulkAll parts + 1
  | .iface _ d => uptoBulk d + 1
  | .map entries => uptoBulkEntries entries + 1
  | .held _ => 1
def uptoBulkAll {H : Type} : List (DataW H) → Nat
  | [] => 0
  | d :: r => uptoBulk d + uptoBulkAll r
def uptoBulkEntries {H : Type} : List (Lit × DataW H) → Nat
  | [] => 0
  | x :: r => uptoBulkEntry x + uptoBulkEntries r
def uptoBulkEntry {H : Type} : Lit × DataW H → Nat
  | (.string bytes, d) => bytes.length + uptoBulk d + 1
  | (_, d) => uptoBulk d + 1
 end
def uptoSmall : (H : Type) → List (DataW H) → Bool := fun _ ds => decide (uptoBulkAll ds ≤ 1048576)
def OpenSpec.upto (s : _root_.Go.ChangeSpec) : _root_.Go.OpenSpec := { _root_.Go.OpenSpec.ofChange s with cond := some uptoSmall }

/-- 'strawloftlaw.CrushPlaces', WHERE WHAT IT READS IS OF BULK AT MOST 1048576: true; the input reads as it did. -/
def crushPlacesUptoRow : OpenClaim := { program := "ytcbecpgllebepaa", sum := "da6411a115791e8e06d8a1cda6038ac5c2380954aa4656853c937d5b325df594", func := "strawloft/strawloftlaw.CrushPlaces", spec := "crushPlaces", unfollowed := true, recurses := true, apart := false, narrowed := true }
def CrushPlacesUptoSaid : Prop := crushPlacesUptoRow.holds Try.pinned (OpenSpec.upto crushPlacesSpec)

/-- 'strawloftlaw.CrushMoves', WHERE WHAT IT READS IS OF BULK AT MOST 1048576: true; the input reads as it did. -/
def crushMovesUptoRow : OpenClaim := { program := "ytcbecpgllebepaa", sum := "da6411a115791e8e06d8a1cda6038ac5c2380954aa4656853c937d5b325df594", func := "strawloft/strawloftlaw.CrushMoves", spec := "crushMoves", unfollowed := true, recurses := true, apart := false, narrowed := true }
def CrushMovesUptoSaid : Prop := crushMovesUptoRow.holds Try.pinned (OpenSpec.upto crushMovesSpec)

/-- 'strawloftkeep.CrushApart', WHERE WHAT IT READS IS OF BULK AT MOST 1048576: true; the input reads as it did. -/
def crushApartUptoRow : OpenClaim := { program := "ytcbecpgllebepaa", sum := "da6411a115791e8e06d8a1cda6038ac5c2380954aa4656853c937d5b325df594", func := "strawloft/strawloftkeep.CrushApart", spec := "crushApart", unfollowed := true, recurses := true, apart := false, narrowed := true }
def CrushApartUptoSaid : Prop := crushApartUptoRow.holds Try.pinned (OpenSpec.upto crushApartSpec)

/-- 'strawloftkeep.CrushGone', WHERE WHAT IT READS IS OF BULK AT MOST 1048576: true; the input reads as it did. -/
def crushGoneUptoRow : OpenClaim := { program := "ytcbecpgllebepaa", sum := "da6411a115791e8e06d8a1cda6038ac5c2380954aa4656853c937d5b325df594", func := "strawloft/strawloftkeep.CrushGone", spec := "crushGone", unfollowed := true, recurses := true, apart := false, narrowed := true }
def CrushGoneUptoSaid : Prop := crushGoneUptoRow.holds Try.pinned (OpenSpec.upto crushGoneSpec)

/-- 'strawloftkeep.CrushNew', WHERE WHAT IT READS IS OF BULK AT MOST 1048576: true; the input reads as it did. -/
def crushNewUptoRow : OpenClaim := { program := "ytcbecpgllebepaa", sum := "da6411a115791e8e06d8a1cda6038ac5c2380954aa4656853c937d5b325df594", func := "strawloft/strawloftkeep.CrushNew", spec := "crushNew", unfollowed := true, recurses := true, apart := false, narrowed := true }
def CrushNewUptoSaid : Prop := crushNewUptoRow.holds Try.pinned (OpenSpec.upto crushNewSpec)

/-- 'strawloftkeep.CrushInner', WHERE WHAT IT READS IS OF BULK AT MOST 1048576: true; the input reads as it did. -/
def crushInnerUptoRow : OpenClaim := { program := "ytcbecpgllebepaa", sum := "da6411a115791e8e06d8a1cda6038ac5c2380954aa4656853c937d5b325df594", func := "strawloft/strawloftkeep.CrushInner", spec := "crushInner", unfollowed := true, recurses := true, apart := false, narrowed := true }
def CrushInnerUptoSaid : Prop := crushInnerUptoRow.holds Try.pinned (OpenSpec.upto crushInnerSpec)

end Rows
end Go.Proofs.Ytcbecpgllebepaa
