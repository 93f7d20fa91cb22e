/-
  No cell of these rows narrows 'for every input' (looked for: loops, veiled, ifaces, maps, wideKeys, modest, calm, conditions, laid).
  DERIVED. THE GIVEN ROWS OF THIS SEAT. 4 by the template 'for every input the law returns true; each argument reads behind the call as it read before'; 0 by the template 'total and deterministic' (their statements: YtjaacohnnplmdaaTotals.lean).
  GIVEN WITH THE SEED: the statements are not yours to turn. If you find one false, say at which input.
  Laid BY PROGRAM, IN A SANDBOX (cutbox-rows.mjs): the forced cells as the released guide's own fill.sh prints them over the translation 7bb1a238c5a137b3… (all of the seat's roots in one cut). By AI agents, Wed Nov 11 2026. No macro, syntax, notation, axiom, sorry.
-/
import Derived.Test.YtjaacohnnplmdaaChecked
import GoSem.Claim
import GoSem.ClaimJoined
import GoSem.ClaimMapViews
import Derived.JoinedTies
import Derived.KernelRfl
namespace Go.Proofs.Ytjaacohnnplmdaa
/- THE CELL 'sum', in the pinned program and in every row, IS THE sha256 OF THE DUMP (.gsa) THAT YtjaacohnnplmdaaProg.lean LOADS. Nothing in Lean hashes anything: it is a label: what it is worth is what the hold of that sum in a sandbox is worth. -/
noncomputable def Try.pinned : Pinned := { name := "ytjaacohnnplmdaa", sum := "7bb1a238c5a137b33fb18a23db9a2038572172ce5429beb2baea3d1a343551a5", checked := Try.checked }
namespace Rows
def none {H : Type} : Left H := { results := [], args := [] }

/-- 'strawloftlaw.JumpTells': WHATEVER THE INPUT: true; the input reads as it did. -/
def jumpTellsSpec : ChangeSpec := { name := "jumpTells", fn := fun _ => fun
  | [d1, d2] => { results := [.lit (.bool true)], args := [d1, d2] }
  | _ => none }
def jumpTellsRow : OpenClaim := { program := "ytjaacohnnplmdaa", sum := "7bb1a238c5a137b33fb18a23db9a2038572172ce5429beb2baea3d1a343551a5", func := "strawloft/strawloftlaw.JumpTells", spec := "jumpTells", unfollowed := true, recurses := true, apart := false }
def JumpTellsSaid : Prop := jumpTellsRow.holds Try.pinned (OpenSpec.ofChange jumpTellsSpec)

/-- ITS FALSE NEIGHBOUR: 'it returns false'. Refute it at one input. -/
def jumpTellsWrong : ChangeSpec := { name := "jumpTells", fn := fun _ => fun
  | [d1, d2] => { results := [.lit (.bool false)], args := [d1, d2] }
  | _ => none }
def JumpTellsWrongFalsely : Prop := jumpTellsRow.holds Try.pinned (OpenSpec.ofChange jumpTellsWrong)

/-- 'strawloftkeep.JumpOne': WHATEVER THE INPUT: true; the input reads as it did. -/
def jumpOneSpec : ChangeSpec := { name := "jumpOne", fn := fun _ => fun
  | [d1, d2] => { results := [.lit (.bool true)], args := [d1, d2] }
  | _ => none }
def jumpOneRow : OpenClaim := { program := "ytjaacohnnplmdaa", sum := "7bb1a238c5a137b33fb18a23db9a2038572172ce5429beb2baea3d1a343551a5", func := "strawloft/strawloftkeep.JumpOne", spec := "jumpOne", unfollowed := true, recurses := true, apart := false }
def JumpOneSaid : Prop := jumpOneRow.holds Try.pinned (OpenSpec.ofChange jumpOneSpec)

/-- ITS FALSE NEIGHBOUR: 'it returns false'. Refute it at one input. -/
def jumpOneWrong : ChangeSpec := { name := "jumpOne", fn := fun _ => fun
  | [d1, d2] => { results := [.lit (.bool false)], args := [d1, d2] }
  | _ => none }
def JumpOneWrongFalsely : Prop := jumpOneRow.holds Try.pinned (OpenSpec.ofChange jumpOneWrong)

/-- 'strawloftkeep.JumpRises': WHATEVER THE INPUT: true; the input reads as it did. -/
def jumpRisesSpec : ChangeSpec := { name := "jumpRises", fn := fun _ => fun
  | [d1, d2, d3] => { results := [.lit (.bool true)], args := [d1, d2, d3] }
  | _ => none }
def jumpRisesRow : OpenClaim := { program := "ytjaacohnnplmdaa", sum := "7bb1a238c5a137b33fb18a23db9a2038572172ce5429beb2baea3d1a343551a5", func := "strawloft/strawloftkeep.JumpRises", spec := "jumpRises", unfollowed := true, recurses := true, apart := false }
def JumpRisesSaid : Prop := jumpRisesRow.holds Try.pinned (OpenSpec.ofChange jumpRisesSpec)

/-- ITS FALSE NEIGHBOUR: 'it returns false'. Refute it at one input. -/
def jumpRisesWrong : ChangeSpec := { name := "jumpRises", fn := fun _ => fun
  | [d1, d2, d3] => { results := [.lit (.bool false)], args := [d1, d2, d3] }
  | _ => none }
def JumpRisesWrongFalsely : Prop := jumpRisesRow.holds Try.pinned (OpenSpec.ofChange jumpRisesWrong)

/-- 'strawloftkeep.JumpLess': WHATEVER THE INPUT: true; the input reads as it did. -/
def jumpLessSpec : ChangeSpec := { name := "jumpLess", fn := fun _ => fun
  | [d1, d2, d3] => { results := [.lit (.bool true)], args := [d1, d2, d3] }
  | _ => none }
def jumpLessRow : OpenClaim := { program := "ytjaacohnnplmdaa", sum := "7bb1a238c5a137b33fb18a23db9a2038572172ce5429beb2baea3d1a343551a5", func := "strawloft/strawloftkeep.JumpLess", spec := "jumpLess", unfollowed := true, recurses := true, apart := false }
def JumpLessSaid : Prop := jumpLessRow.holds Try.pinned (OpenSpec.ofChange jumpLessSpec)

/-- ITS FALSE NEIGHBOUR: 'it returns false'. Refute it at one input. -/
def jumpLessWrong : ChangeSpec := { name := "jumpLess", fn := fun _ => fun
  | [d1, d2, d3] => { results := [.lit (.bool false)], args := [d1, d2, d3] }
  | _ => none }
def JumpLessWrongFalsely : Prop := jumpLessRow.holds Try.pinned (OpenSpec.ofChange jumpLessWrong)

/- THE SECOND FORM. 'bulk': how many values and letters a reading holds, each counted each time it is reached (what is shared counts as often as it is met; a slice's spare places count too). A statement '..UptoSaid' is the law's where the arguments, and the package variables that the reading takes, are together of bulk at most 1048576: NARROWER than '..Said'. Prove '..Said' where nothing that the law and all that it calls make is longer than what came in: it says more and counts as full. Else prove '..UptoSaid'. A law counts once. -/
mutual
def uptoBulk {H : Type} : DataW H → Nat
  | .lit (.string bytes) => bytes.length + 1
  | .lit _ => 1
  | .nil => 1
  | .ptr d => uptoBulk d + 1
  | .slice elems spare => uptoBulkAll elems + uptoBulkAll spare + 1
  | .agg parts => uptoBulkAll parts + 1
  | .iface _ d => uptoBulk d + 1
  | .map entries => uptoBulkEntries entries + 1
  | .held _ => 1
def uptoBulkAll {H : Type} : List (DataW H) → Nat
  | [] => 0
  | d :: r => uptoBulk d + uptoBulkAll r
def uptoBulkEntries {H : Type} : List (Lit × DataW H) → Nat
  | [] => 0
  | x :: r => uptoBulkEntry x + uptoBulkEntries r
def uptoBulkEntry {H : Type} : Lit × DataW H → Nat
  | (.string bytes, d) => bytes.length + uptoBulk d + 1
  | (_, d) => uptoBulk d + 1
 end
def uptoSmall : (H : Type) → List (DataW H) → Bool := fun _ ds => decide (uptoBulkAll ds ≤ 1048576)
def OpenSpec.upto (s : _root_.Go.ChangeSpec) : _root_.Go.OpenSpec := { _root_.Go.OpenSpec.ofChange s with cond := some uptoSmall }

/-- 'strawloftlaw.JumpTells', WHERE WHAT IT READS IS OF BULK AT MOST 1048576: true; the input reads as it did. -/
def jumpTellsUptoRow : OpenClaim := { program := "ytjaacohnnplmdaa", sum := "7bb1a238c5a137b33fb18a23db9a2038572172ce5429beb2baea3d1a343551a5", func := "strawloft/strawloftlaw.JumpTells", spec := "jumpTells", unfollowed := true, recurses := true, apart := false, narrowed := true }
def JumpTellsUptoSaid : Prop := jumpTellsUptoRow.holds Try.pinned (OpenSpec.upto jumpTellsSpec)

/-- 'strawloftkeep.JumpOne', WHERE WHAT IT READS IS OF BULK AT MOST 1048576: true; the input reads as it did. -/
def jumpOneUptoRow : OpenClaim := { program := "ytjaacohnnplmdaa", sum := "7bb1a238c5a137b33fb18a23db9a2038572172ce5429beb2baea3d1a343551a5", func := "strawloft/strawloftkeep.JumpOne", spec := "jumpOne", unfollowed := true, recurses := true, apart := false, narrowed := true }
def JumpOneUptoSaid : Prop := jumpOneUptoRow.holds Try.pinned (OpenSpec.upto jumpOneSpec)

/-- 'strawloftkeep.JumpRises', WHERE WHAT IT READS IS OF BULK AT MOST 1048576: true; the input reads as it did. -/
def jumpRisesUptoRow : OpenClaim := { program := "ytjaacohnnplmdaa", sum := "7bb1a238c5a137b33fb18a23db9a2038572172ce5429beb2baea3d1a343551a5", func := "strawloft/strawloftkeep.JumpRises", spec := "jumpRises", unfollowed := true, recurses := true, apart := false, narrowed := true }
def JumpRisesUptoSaid : Prop := jumpRisesUptoRow.holds Try.pinned (OpenSpec.upto jumpRisesSpec)

/-- 'strawloftkeep.JumpLess', WHERE WHAT IT READS IS OF BULK AT MOST 1048576: true; the input reads as it did. -/
def jumpLessUptoRow : OpenClaim := { program := "ytjaacohnnplmdaa", sum := "7bb1a238c5a137b33fb18a23db9a2038572172ce5429beb2baea3d1a343551a5", func := "strawloft/strawloftkeep.JumpLess", spec := "jumpLess", unfollowed := true, recurses := true, apart := false, narrowed := true }
def JumpLessUptoSaid : Prop := jumpLessUptoRow.holds Try.pinned (OpenSpec.upto jumpLessSpec)

end Rows
end Go.Proofs.Ytjaacohnnplmdaa
