/-
  No cell of these rows narrows 'for every input' (looked for: loops, veiled, ifaces, maps, wideKeys, modest, calm, conditions, laid).
  DERIVED. THE GIVEN ROWS OF THIS SEAT. 6 by the template 'for every input the law returns true; each argument reads behind the call as it read before'; 0 by the template 'total and deterministic' (their statements: YthebilmeehnkpaaTotals.lean).
  GIVEN WITH THE SEED: the statements are not yours to turn. If you find one false, say at which input.
  Laid BY PROGRAM, IN A SANDBOX (cutbox-rows.mjs): the forced cells as the released guide's own fill.sh prints them over the translation c00f7fb7a7ce64aa… (all of the seat's roots in one cut). By AI agents, Wed Nov 11 2026. No macro, syntax, notation, axiom, sorry.
-/
import Derived.Test.YthebilmeehnkpaaChecked
import GoSem.Claim
import GoSem.ClaimJoined
import GoSem.ClaimMapViews
import Derived.JoinedTies
import Derived.KernelRfl
namespace Go.Proofs.Ythebilmeehnkpaa
/- THE CELL 'sum', in the pinned program and in every row, IS THE sha256 OF THE DUMP (.gsa) THAT YthebilmeehnkpaaProg.lean LOADS. Nothing in Lean hashes anything: it is a label: what it is worth is what the hold of that sum in a sandbox is worth. -/
noncomputable def Try.pinned : Pinned := { name := "ythebilmeehnkpaa", sum := "c00f7fb7a7ce64aafa365978a8e6383ba54157971eeb9f98730a936080fc32db", checked := Try.checked }
namespace Rows
def none {H : Type} : Left H := { results := [], args := [] }

/-- 'strawloftlaw.OrsetPuts': WHATEVER THE INPUT: true; the input reads as it did. -/
def orsetPutsSpec : ChangeSpec := { name := "orsetPuts", fn := fun _ => fun
  | [d1, d2, d3, d4] => { results := [.lit (.bool true)], args := [d1, d2, d3, d4] }
  | _ => none }
def orsetPutsRow : OpenClaim := { program := "ythebilmeehnkpaa", sum := "c00f7fb7a7ce64aafa365978a8e6383ba54157971eeb9f98730a936080fc32db", func := "strawloft/strawloftlaw.OrsetPuts", spec := "orsetPuts", inPlace := ["slices.overlaps[strawloft/api.Tag]"], unfollowed := true, recurses := true, plainKeys := false, apart := false }
def OrsetPutsSaid : Prop := orsetPutsRow.holds Try.pinned (OpenSpec.ofChange orsetPutsSpec)

/-- ITS FALSE NEIGHBOUR: 'it returns false'. Refute it at one input. -/
def orsetPutsWrong : ChangeSpec := { name := "orsetPuts", fn := fun _ => fun
  | [d1, d2, d3, d4] => { results := [.lit (.bool false)], args := [d1, d2, d3, d4] }
  | _ => none }
def OrsetPutsWrongFalsely : Prop := orsetPutsRow.holds Try.pinned (OpenSpec.ofChange orsetPutsWrong)

/-- 'strawloftlaw.OrsetJoins': WHATEVER THE INPUT: true; the input reads as it did. -/
def orsetJoinsSpec : ChangeSpec := { name := "orsetJoins", fn := fun _ => fun
  | [d1, d2] => { results := [.lit (.bool true)], args := [d1, d2] }
  | _ => none }
def orsetJoinsRow : OpenClaim := { program := "ythebilmeehnkpaa", sum := "c00f7fb7a7ce64aafa365978a8e6383ba54157971eeb9f98730a936080fc32db", func := "strawloft/strawloftlaw.OrsetJoins", spec := "orsetJoins", unfollowed := true, recurses := true, plainKeys := false, apart := false }
def OrsetJoinsSaid : Prop := orsetJoinsRow.holds Try.pinned (OpenSpec.ofChange orsetJoinsSpec)

/-- ITS FALSE NEIGHBOUR: 'it returns false'. Refute it at one input. -/
def orsetJoinsWrong : ChangeSpec := { name := "orsetJoins", fn := fun _ => fun
  | [d1, d2] => { results := [.lit (.bool false)], args := [d1, d2] }
  | _ => none }
def OrsetJoinsWrongFalsely : Prop := orsetJoinsRow.holds Try.pinned (OpenSpec.ofChange orsetJoinsWrong)

/-- 'strawloftkeep.OrsetLattice': WHATEVER THE INPUT: true; the input reads as it did. -/
def orsetLatticeSpec : ChangeSpec := { name := "orsetLattice", fn := fun _ => fun
  | [d1, d2, d3] => { results := [.lit (.bool true)], args := [d1, d2, d3] }
  | _ => none }
def orsetLatticeRow : OpenClaim := { program := "ythebilmeehnkpaa", sum := "c00f7fb7a7ce64aafa365978a8e6383ba54157971eeb9f98730a936080fc32db", func := "strawloft/strawloftkeep.OrsetLattice", spec := "orsetLattice", inPlace := ["slices.overlaps[strawloft/api.Tag]"], unfollowed := true, recurses := true, plainKeys := false, apart := false }
def OrsetLatticeSaid : Prop := orsetLatticeRow.holds Try.pinned (OpenSpec.ofChange orsetLatticeSpec)

/-- ITS FALSE NEIGHBOUR: 'it returns false'. Refute it at one input. -/
def orsetLatticeWrong : ChangeSpec := { name := "orsetLattice", fn := fun _ => fun
  | [d1, d2, d3] => { results := [.lit (.bool false)], args := [d1, d2, d3] }
  | _ => none }
def OrsetLatticeWrongFalsely : Prop := orsetLatticeRow.holds Try.pinned (OpenSpec.ofChange orsetLatticeWrong)

/-- 'strawloftkeep.OrsetAdds': WHATEVER THE INPUT: true; the input reads as it did. -/
def orsetAddsSpec : ChangeSpec := { name := "orsetAdds", fn := fun _ => fun
  | [d1, d2, d3] => { results := [.lit (.bool true)], args := [d1, d2, d3] }
  | _ => none }
def orsetAddsRow : OpenClaim := { program := "ythebilmeehnkpaa", sum := "c00f7fb7a7ce64aafa365978a8e6383ba54157971eeb9f98730a936080fc32db", func := "strawloft/strawloftkeep.OrsetAdds", spec := "orsetAdds", inPlace := ["slices.overlaps[strawloft/api.Tag]"], unfollowed := true, recurses := true, plainKeys := false, apart := false }
def OrsetAddsSaid : Prop := orsetAddsRow.holds Try.pinned (OpenSpec.ofChange orsetAddsSpec)

/-- ITS FALSE NEIGHBOUR: 'it returns false'. Refute it at one input. -/
def orsetAddsWrong : ChangeSpec := { name := "orsetAdds", fn := fun _ => fun
  | [d1, d2, d3] => { results := [.lit (.bool false)], args := [d1, d2, d3] }
  | _ => none }
def OrsetAddsWrongFalsely : Prop := orsetAddsRow.holds Try.pinned (OpenSpec.ofChange orsetAddsWrong)

/-- 'strawloftkeep.OrsetDrops': WHATEVER THE INPUT: true; the input reads as it did. -/
def orsetDropsSpec : ChangeSpec := { name := "orsetDrops", fn := fun _ => fun
  | [d1, d2] => { results := [.lit (.bool true)], args := [d1, d2] }
  | _ => none }
def orsetDropsRow : OpenClaim := { program := "ythebilmeehnkpaa", sum := "c00f7fb7a7ce64aafa365978a8e6383ba54157971eeb9f98730a936080fc32db", func := "strawloft/strawloftkeep.OrsetDrops", spec := "orsetDrops", inPlace := ["slices.overlaps[strawloft/api.Tag]"], unfollowed := true, recurses := true, plainKeys := false, apart := false }
def OrsetDropsSaid : Prop := orsetDropsRow.holds Try.pinned (OpenSpec.ofChange orsetDropsSpec)

/-- ITS FALSE NEIGHBOUR: 'it returns false'. Refute it at one input. -/
def orsetDropsWrong : ChangeSpec := { name := "orsetDrops", fn := fun _ => fun
  | [d1, d2] => { results := [.lit (.bool false)], args := [d1, d2] }
  | _ => none }
def OrsetDropsWrongFalsely : Prop := orsetDropsRow.holds Try.pinned (OpenSpec.ofChange orsetDropsWrong)

/-- 'strawloftkeep.OrsetPut': WHATEVER THE INPUT: true; the input reads as it did. -/
def orsetPutSpec : ChangeSpec := { name := "orsetPut", fn := fun _ => fun
  | [d1, d2, d3] => { results := [.lit (.bool true)], args := [d1, d2, d3] }
  | _ => none }
def orsetPutRow : OpenClaim := { program := "ythebilmeehnkpaa", sum := "c00f7fb7a7ce64aafa365978a8e6383ba54157971eeb9f98730a936080fc32db", func := "strawloft/strawloftkeep.OrsetPut", spec := "orsetPut", inPlace := ["slices.overlaps[strawloft/api.Tag]"], unfollowed := true, recurses := true, plainKeys := false, apart := false }
def OrsetPutSaid : Prop := orsetPutRow.holds Try.pinned (OpenSpec.ofChange orsetPutSpec)

/-- ITS FALSE NEIGHBOUR: 'it returns false'. Refute it at one input. -/
def orsetPutWrong : ChangeSpec := { name := "orsetPut", fn := fun _ => fun
  | [d1, d2, d3] => { results := [.lit (.bool false)], args := [d1, d2, d3] }
  | _ => none }
def OrsetPutWrongFalsely : Prop := orsetPutRow.holds Try.pinned (OpenSpec.ofChange orsetPutWrong)

/- THE SECOND FORM. 'bulk': how many values and letters a reading holds, each counted each time it is reached (what is shared counts as often as it is met; a slice's spare places count too). A statement '..UptoSaid' is the law's where the arguments, and the package variables that the reading takes, are together of bulk at most 1048576: NARROWER than '..Said'. Prove '..Said' where nothing that the law and all that it calls make is longer than what came in: it says more and counts as full. Else prove '..UptoSaid'. A law counts once. -/
mutual
def uptoBulk {H : Type} : DataW H → Nat
  | .lit (.string bytes) => bytes.length + 1
  | .lit _ => 1
  | .nil => 1
  | .ptr d => uptoBulk d + 1
  | .slice elems spare => uptoBulkAll elems + uptoBulkAll spare + 1
  | .agg parts => uptoBulkAll parts + 1
  | .iface _ d => uptoBulk d + 1
  | .map entries => uptoBulkEntries entries + 1
  | .held _ => 1
def uptoBulkAll {H : Type} : List (DataW H) → Nat
  | [] => 0
  | d :: r => uptoBulk d + uptoBulkAll r
def uptoBulkEntries {H : Type} : List (Lit × DataW H) → Nat
  | [] => 0
  | x :: r => uptoBulkEntry x + uptoBulkEntries r
def uptoBulkEntry {H : Type} : Lit × DataW H → Nat
  | (.string bytes, d) => bytes.length + uptoBulk d + 1
  | (_, d) => uptoBulk d + 1
 end
def uptoSmall : (H : Type) → List (DataW H) → Bool := fun _ ds => decide (uptoBulkAll ds ≤ 1048576)
def OpenSpec.upto (s : _root_.Go.ChangeSpec) : _root_.Go.OpenSpec := { _root_.Go.OpenSpec.ofChange s with cond := some uptoSmall }

/-- 'strawloftlaw.OrsetPuts', WHERE WHAT IT READS IS OF BULK AT MOST 1048576: true; the input reads as it did. -/
def orsetPutsUptoRow : OpenClaim := { program := "ythebilmeehnkpaa", sum := "c00f7fb7a7ce64aafa365978a8e6383ba54157971eeb9f98730a936080fc32db", func := "strawloft/strawloftlaw.OrsetPuts", spec := "orsetPuts", inPlace := ["slices.overlaps[strawloft/api.Tag]"], unfollowed := true, recurses := true, plainKeys := false, apart := false, narrowed := true }
def OrsetPutsUptoSaid : Prop := orsetPutsUptoRow.holds Try.pinned (OpenSpec.upto orsetPutsSpec)

/-- 'strawloftlaw.OrsetJoins', WHERE WHAT IT READS IS OF BULK AT MOST 1048576: true; the input reads as it did. -/
def orsetJoinsUptoRow : OpenClaim := { program := "ythebilmeehnkpaa", sum := "c00f7fb7a7ce64aafa365978a8e6383ba54157971eeb9f98730a936080fc32db", func := "strawloft/strawloftlaw.OrsetJoins", spec := "orsetJoins", unfollowed := true, recurses := true, plainKeys := false, apart := false, narrowed := true }
def OrsetJoinsUptoSaid : Prop := orsetJoinsUptoRow.holds Try.pinned (OpenSpec.upto orsetJoinsSpec)

/-- 'strawloftkeep.OrsetLattice', WHERE WHAT IT READS IS OF BULK AT MOST 1048576: true; the input reads as it did. -/
def orsetLatticeUptoRow : OpenClaim := { program := "ythebilmeehnkpaa", sum := "c00f7fb7a7ce64aafa365978a8e6383ba54157971eeb9f98730a936080fc32db", func := "strawloft/strawloftkeep.OrsetLattice", spec := "orsetLattice", inPlace := ["slices.overlaps[strawloft/api.Tag]"], unfollowed := true, recurses := true, plainKeys := false, apart := false, narrowed := true }
def OrsetLatticeUptoSaid : Prop := orsetLatticeUptoRow.holds Try.pinned (OpenSpec.upto orsetLatticeSpec)

/-- 'strawloftkeep.OrsetAdds', WHERE WHAT IT READS IS OF BULK AT MOST 1048576: true; the input reads as it did. -/
def orsetAddsUptoRow : OpenClaim := { program := "ythebilmeehnkpaa", sum := "c00f7fb7a7ce64aafa365978a8e6383ba54157971eeb9f98730a936080fc32db", func := "strawloft/strawloftkeep.OrsetAdds", spec := "orsetAdds", inPlace := ["slices.overlaps[strawloft/api.Tag]"], unfollowed := true, recurses := true, plainKeys := false, apart := false, narrowed := true }
def OrsetAddsUptoSaid : Prop := orsetAddsUptoRow.holds Try.pinned (OpenSpec.upto orsetAddsSpec)

/-- 'strawloftkeep.OrsetDrops', WHERE WHAT IT READS IS OF BULK AT MOST 1048576: true; the input reads as it did. -/
def orsetDropsUptoRow : OpenClaim := { program := "ythebilmeehnkpaa", sum := "c00f7fb7a7ce64aafa365978a8e6383ba54157971eeb9f98730a936080fc32db", func := "strawloft/strawloftkeep.OrsetDrops", spec := "orsetDrops", inPlace := ["slices.overlaps[strawloft/api.Tag]"], unfollowed := true, recurses := true, plainKeys := false, apart := false, narrowed := true }
def OrsetDropsUptoSaid : Prop := orsetDropsUptoRow.holds Try.pinned (OpenSpec.upto orsetDropsSpec)

/-- 'strawloftkeep.OrsetPut', WHERE WHAT IT READS IS OF BULK AT MOST 1048576: true; the input reads as it did. -/
def orsetPutUptoRow : OpenClaim := { program := "ythebilmeehnkpaa", sum := "c00f7fb7a7ce64aafa365978a8e6383ba54157971eeb9f98730a936080fc32db", func := "strawloft/strawloftkeep.OrsetPut", spec := "orsetPut", inPlace := ["slices.overlaps[strawloft/api.Tag]"], unfollowed := true, recurses := true, plainKeys := false, apart := false, narrowed := true }
def OrsetPutUptoSaid : Prop := orsetPutUptoRow.holds Try.pinned (OpenSpec.upto orsetPutSpec)

end Rows
end Go.Proofs.Ythebilmeehnkpaa
