/-
  No cell of these rows narrows 'for every input' (looked for: loops, veiled, ifaces, maps, wideKeys, modest, calm, conditions, laid).
  DERIVED. THE GIVEN ROWS OF THIS SEAT. 6 by the template 'for every input the law returns true; each argument reads behind the call as it read before'; 0 by the template 'total and deterministic' (their statements: YtmnhhfhdaagmhaaTotals.lean).
  GIVEN WITH THE SEED: the statements are not yours to turn. If you find one false, say at which input.
  Laid BY PROGRAM, IN A SANDBOX (cutbox-rows.mjs): the forced cells as the released guide's own fill.sh prints them over the translation 75e66ba12b8b483a… (all of the seat's roots in one cut). By AI agents, Wed Nov 11 2026. No macro, syntax, notation, axiom, sorry.
-/
import Derived.Test.YtmnhhfhdaagmhaaChecked
import GoSem.Claim
import GoSem.ClaimJoined
import GoSem.ClaimMapViews
import Derived.JoinedTies
import Derived.KernelRfl
namespace Go.Proofs.Ytmnhhfhdaagmhaa
/- THE CELL 'sum', in the pinned program and in every row, IS THE sha256 OF THE DUMP (.gsa) THAT YtmnhhfhdaagmhaaProg.lean LOADS. Nothing in Lean hashes anything: it is a label: what it is worth is what the hold of that sum in a sandbox is worth. -/
noncomputable def Try.pinned : Pinned := { name := "ytmnhhfhdaagmhaa", sum := "75e66ba12b8b483a72e6df26dbfd2c39590a9b2319309e08488c037a62cf1051", checked := Try.checked }
namespace Rows
def none {H : Type} : Left H := { results := [], args := [] }

/-- 'strawloftlaw.LogsBest': WHATEVER THE INPUT: true; the input reads as it did. -/
def logsBestSpec : ChangeSpec := { name := "logsBest", fn := fun _ => fun
  | [d1, d2] => { results := [.lit (.bool true)], args := [d1, d2] }
  | _ => none }
def logsBestRow : OpenClaim := { program := "ytmnhhfhdaagmhaa", sum := "75e66ba12b8b483a72e6df26dbfd2c39590a9b2319309e08488c037a62cf1051", func := "strawloft/strawloftlaw.LogsBest", spec := "logsBest", apart := false }
def LogsBestSaid : Prop := logsBestRow.holds Try.pinned (OpenSpec.ofChange logsBestSpec)

/-- ITS FALSE NEIGHBOUR: 'it returns false'. Refute it at one input. -/
def logsBestWrong : ChangeSpec := { name := "logsBest", fn := fun _ => fun
  | [d1, d2] => { results := [.lit (.bool false)], args := [d1, d2] }
  | _ => none }
def LogsBestWrongFalsely : Prop := logsBestRow.holds Try.pinned (OpenSpec.ofChange logsBestWrong)

/-- 'strawloftlaw.LogsMerge': WHATEVER THE INPUT: true; the input reads as it did. -/
def logsMergeSpec : ChangeSpec := { name := "logsMerge", fn := fun _ => fun
  | [d1, d2] => { results := [.lit (.bool true)], args := [d1, d2] }
  | _ => none }
def logsMergeRow : OpenClaim := { program := "ytmnhhfhdaagmhaa", sum := "75e66ba12b8b483a72e6df26dbfd2c39590a9b2319309e08488c037a62cf1051", func := "strawloft/strawloftlaw.LogsMerge", spec := "logsMerge", unfollowed := true, recurses := true, apart := false }
def LogsMergeSaid : Prop := logsMergeRow.holds Try.pinned (OpenSpec.ofChange logsMergeSpec)

/-- ITS FALSE NEIGHBOUR: 'it returns false'. Refute it at one input. -/
def logsMergeWrong : ChangeSpec := { name := "logsMerge", fn := fun _ => fun
  | [d1, d2] => { results := [.lit (.bool false)], args := [d1, d2] }
  | _ => none }
def LogsMergeWrongFalsely : Prop := logsMergeRow.holds Try.pinned (OpenSpec.ofChange logsMergeWrong)

/-- 'strawloftkeep.LogsTold': WHATEVER THE INPUT: true; the input reads as it did. -/
def logsToldSpec : ChangeSpec := { name := "logsTold", fn := fun _ => fun
  | [d1, d2] => { results := [.lit (.bool true)], args := [d1, d2] }
  | _ => none }
def logsToldRow : OpenClaim := { program := "ytmnhhfhdaagmhaa", sum := "75e66ba12b8b483a72e6df26dbfd2c39590a9b2319309e08488c037a62cf1051", func := "strawloft/strawloftkeep.LogsTold", spec := "logsTold", unfollowed := true, recurses := true, apart := false }
def LogsToldSaid : Prop := logsToldRow.holds Try.pinned (OpenSpec.ofChange logsToldSpec)

/-- ITS FALSE NEIGHBOUR: 'it returns false'. Refute it at one input. -/
def logsToldWrong : ChangeSpec := { name := "logsTold", fn := fun _ => fun
  | [d1, d2] => { results := [.lit (.bool false)], args := [d1, d2] }
  | _ => none }
def LogsToldWrongFalsely : Prop := logsToldRow.holds Try.pinned (OpenSpec.ofChange logsToldWrong)

/-- 'strawloftkeep.LogsAgain': WHATEVER THE INPUT: true; the input reads as it did. -/
def logsAgainSpec : ChangeSpec := { name := "logsAgain", fn := fun _ => fun
  | [d1, d2] => { results := [.lit (.bool true)], args := [d1, d2] }
  | _ => none }
def logsAgainRow : OpenClaim := { program := "ytmnhhfhdaagmhaa", sum := "75e66ba12b8b483a72e6df26dbfd2c39590a9b2319309e08488c037a62cf1051", func := "strawloft/strawloftkeep.LogsAgain", spec := "logsAgain", unfollowed := true, recurses := true, apart := false }
def LogsAgainSaid : Prop := logsAgainRow.holds Try.pinned (OpenSpec.ofChange logsAgainSpec)

/-- ITS FALSE NEIGHBOUR: 'it returns false'. Refute it at one input. -/
def logsAgainWrong : ChangeSpec := { name := "logsAgain", fn := fun _ => fun
  | [d1, d2] => { results := [.lit (.bool false)], args := [d1, d2] }
  | _ => none }
def LogsAgainWrongFalsely : Prop := logsAgainRow.holds Try.pinned (OpenSpec.ofChange logsAgainWrong)

/-- 'strawloftkeep.LogsHighest': WHATEVER THE INPUT: true; the input reads as it did. -/
def logsHighestSpec : ChangeSpec := { name := "logsHighest", fn := fun _ => fun
  | [d] => { results := [.lit (.bool true)], args := [d] }
  | _ => none }
def logsHighestRow : OpenClaim := { program := "ytmnhhfhdaagmhaa", sum := "75e66ba12b8b483a72e6df26dbfd2c39590a9b2319309e08488c037a62cf1051", func := "strawloft/strawloftkeep.LogsHighest", spec := "logsHighest", unfollowed := true, recurses := true, apart := false }
def LogsHighestSaid : Prop := logsHighestRow.holds Try.pinned (OpenSpec.ofChange logsHighestSpec)

/-- ITS FALSE NEIGHBOUR: 'it returns false'. Refute it at one input. -/
def logsHighestWrong : ChangeSpec := { name := "logsHighest", fn := fun _ => fun
  | [d] => { results := [.lit (.bool false)], args := [d] }
  | _ => none }
def LogsHighestWrongFalsely : Prop := logsHighestRow.holds Try.pinned (OpenSpec.ofChange logsHighestWrong)

/-- 'strawloftkeep.LogsCommon': WHATEVER THE INPUT: true; the input reads as it did. -/
def logsCommonSpec : ChangeSpec := { name := "logsCommon", fn := fun _ => fun
  | [d1, d2, d3] => { results := [.lit (.bool true)], args := [d1, d2, d3] }
  | _ => none }
def logsCommonRow : OpenClaim := { program := "ytmnhhfhdaagmhaa", sum := "75e66ba12b8b483a72e6df26dbfd2c39590a9b2319309e08488c037a62cf1051", func := "strawloft/strawloftkeep.LogsCommon", spec := "logsCommon", unfollowed := true, recurses := true, apart := false }
def LogsCommonSaid : Prop := logsCommonRow.holds Try.pinned (OpenSpec.ofChange logsCommonSpec)

/-- ITS FALSE NEIGHBOUR: 'it returns false'. Refute it at one input. -/
def logsCommonWrong : ChangeSpec := { name := "logsCommon", fn := fun _ => fun
  | [d1, d2, d3] => { results := [.lit (.bool false)], args := [d1, d2, d3] }
  | _ => none }
def LogsCommonWrongFalsely : Prop := logsCommonRow.holds Try.pinned (OpenSpec.ofChange logsCommonWrong)

/- THE SECOND FORM. 'bulk': how many values and letters a reading holds, each counted each time it is reached (what is shared counts as often as it is met; a slice's spare places count too). A statement '..UptoSaid' is the law's where the arguments, and the package variables that the reading takes, are together of bulk at most 1048576: NARROWER than '..Said'. Prove '..Said' where nothing that the law and all that it calls make is longer than what came in: it says more and counts as full. Else prove '..UptoSaid'. A law counts once. -/
mutual
def uptoBulk {H : Type} : DataW H → Nat
  | .lit (.string bytes) => bytes.length + 1
  | .lit _ => 1
  | .nil => 1
  | .ptr d => uptoBulk d + 1
  | .slice elems spare => uptoBulkAll elems + uptoBulkAll spare + 1
  | .agg parts => uptoBulkAll parts + 1
  | .iface _ d => uptoBulk d + 1
  | .map entries => uptoBulkEntries entries + 1
  | .held _ => 1
def uptoBulkAll {H : Type} : List (DataW H) → Nat
  | [] => 0
  | d :: r => uptoBulk d + uptoBulkAll r
def uptoBulkEntries {H : Type} : List (Lit × DataW H) → Nat
  | [] => 0
  | x :: r => uptoBulkEntry x + uptoBulkEntries r
def uptoBulkEntry {H : Type} : Lit × DataW H → Nat
  | (.string bytes, d) => bytes.length + uptoBulk d + 1
  | (_, d) => uptoBulk d + 1
 end
def uptoSmall : (H : Type) → List (DataW H) → Bool := fun _ ds => decide (uptoBulkAll ds ≤ 1048576)
def OpenSpec.upto (s : _root_.Go.ChangeSpec) : _root_.Go.OpenSpec := { _root_.Go.OpenSpec.ofChange s with cond := some uptoSmall }

/-- 'strawloftlaw.LogsBest', WHERE WHAT IT READS IS OF BULK AT MOST 1048576: true; the input reads as it did. -/
def logsBestUptoRow : OpenClaim := { program := "ytmnhhfhdaagmhaa", sum := "75e66ba12b8b483a72e6df26dbfd2c39590a9b2319309e08488c037a62cf1051", func := "strawloft/strawloftlaw.LogsBest", spec := "logsBest", apart := false, narrowed := true }
def LogsBestUptoSaid : Prop := logsBestUptoRow.holds Try.pinned (OpenSpec.upto logsBestSpec)

/-- 'strawloftlaw.LogsMerge', WHERE WHAT IT READS IS OF BULK AT MOST 1048576: true; the input reads as it did. -/
def logsMergeUptoRow : OpenClaim := { program := "ytmnhhfhdaagmhaa", sum := "75e66ba12b8b483a72e6df26dbfd2c39590a9b2319309e08488c037a62cf1051", func := "strawloft/strawloftlaw.LogsMerge", spec := "logsMerge", unfollowed := true, recurses := true, apart := false, narrowed := true }
def LogsMergeUptoSaid : Prop := logsMergeUptoRow.holds Try.pinned (OpenSpec.upto logsMergeSpec)

/-- 'strawloftkeep.LogsTold', WHERE WHAT IT READS IS OF BULK AT MOST 1048576: true; the input reads as it did. -/
def logsToldUptoRow : OpenClaim := { program := "ytmnhhfhdaagmhaa", sum := "75e66ba12b8b483a72e6df26dbfd2c39590a9b2319309e08488c037a62cf1051", func := "strawloft/strawloftkeep.LogsTold", spec := "logsTold", unfollowed := true, recurses := true, apart := false, narrowed := true }
def LogsToldUptoSaid : Prop := logsToldUptoRow.holds Try.pinned (OpenSpec.upto logsToldSpec)

/-- 'strawloftkeep.LogsAgain', WHERE WHAT IT READS IS OF BULK AT MOST 1048576: true; the input reads as it did. -/
def logsAgainUptoRow : OpenClaim := { program := "ytmnhhfhdaagmhaa", sum := "75e66ba12b8b483a72e6df26dbfd2c39590a9b2319309e08488c037a62cf1051", func := "strawloft/strawloftkeep.LogsAgain", spec := "logsAgain", unfollowed := true, recurses := true, apart := false, narrowed := true }
def LogsAgainUptoSaid : Prop := logsAgainUptoRow.holds Try.pinned (OpenSpec.upto logsAgainSpec)

/-- 'strawloftkeep.LogsHighest', WHERE WHAT IT READS IS OF BULK AT MOST 1048576: true; the input reads as it did. -/
def logsHighestUptoRow : OpenClaim := { program := "ytmnhhfhdaagmhaa", sum := "75e66ba12b8b483a72e6df26dbfd2c39590a9b2319309e08488c037a62cf1051", func := "strawloft/strawloftkeep.LogsHighest", spec := "logsHighest", unfollowed := true, recurses := true, apart := false, narrowed := true }
def LogsHighestUptoSaid : Prop := logsHighestUptoRow.holds Try.pinned (OpenSpec.upto logsHighestSpec)

/-- 'strawloftkeep.LogsCommon', WHERE WHAT IT READS IS OF BULK AT MOST 1048576: true; the input reads as it did. -/
def logsCommonUptoRow : OpenClaim := { program := "ytmnhhfhdaagmhaa", sum := "75e66ba12b8b483a72e6df26dbfd2c39590a9b2319309e08488c037a62cf1051", func := "strawloft/strawloftkeep.LogsCommon", spec := "logsCommon", unfollowed := true, recurses := true, apart := false, narrowed := true }
def LogsCommonUptoSaid : Prop := logsCommonUptoRow.holds Try.pinned (OpenSpec.upto logsCommonSpec)

end Rows
end Go.Proofs.Ytmnhhfhdaagmhaa
