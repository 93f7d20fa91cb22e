/-
  No cell of these rows narrows 'for every input' (looked for: loops, veiled, ifaces, maps, wideKeys, modest, calm, conditions, laid).
  DERIVED. THE GIVEN ROWS OF THIS SEAT. 5 by the template 'for every input the law returns true; each argument reads behind the call as it read before'; 0 by the template 'total and deterministic' (their statements: YtpoielmbdofjlaaTotals.lean).
  GIVEN WITH THE SEED: the statements are not yours to turn. If you find one false, say at which input.
  Laid BY PROGRAM, IN A SANDBOX (cutbox-rows.mjs): the forced cells as the released guide's own fill.sh prints them over the translation 26f3407e93086b93… (all of the seat's roots in one cut). By AI agents, Wed Nov 11 2026. No macro, syntax, notation, axiom, sorry.
-/
import Derived.Test.YtpoielmbdofjlaaChecked
import GoSem.Claim
import GoSem.ClaimJoined
import GoSem.ClaimMapViews
import Derived.JoinedTies
import Derived.KernelRfl
namespace Go.Proofs.Ytpoielmbdofjlaa
/- THE CELL 'sum', in the pinned program and in every row, IS THE sha256 OF THE DUMP (.gsa) THAT YtpoielmbdofjlaaProg.lean LOADS. Nothing in Lean hashes anything: it is a label: what it is worth is what the hold of that sum in a sandbox is worth. -/
noncomputable def Try.pinned : Pinned := { name := "ytpoielmbdofjlaa", sum := "26f3407e93086b93c7b7e2829bcce2e2a448cb3c5b73f51294387452ac2c528e", checked := Try.checked }
namespace Rows
def none {H : Type} : Left H := { results := [], args := [] }

/-- 'strawloftlaw.SynodPlays': WHATEVER THE INPUT: true; the input reads as it did. -/
def synodPlaysSpec : ChangeSpec := { name := "synodPlays", fn := fun _ => fun
  | [d1, d2] => { results := [.lit (.bool true)], args := [d1, d2] }
  | _ => none }
def synodPlaysRow : OpenClaim := { program := "ytpoielmbdofjlaa", sum := "26f3407e93086b93c7b7e2829bcce2e2a448cb3c5b73f51294387452ac2c528e", func := "strawloft/strawloftlaw.SynodPlays", spec := "synodPlays", unfollowed := true, recurses := true, apart := false }
def SynodPlaysSaid : Prop := synodPlaysRow.holds Try.pinned (OpenSpec.ofChange synodPlaysSpec)

/-- ITS FALSE NEIGHBOUR: 'it returns false'. Refute it at one input. -/
def synodPlaysWrong : ChangeSpec := { name := "synodPlays", fn := fun _ => fun
  | [d1, d2] => { results := [.lit (.bool false)], args := [d1, d2] }
  | _ => none }
def SynodPlaysWrongFalsely : Prop := synodPlaysRow.holds Try.pinned (OpenSpec.ofChange synodPlaysWrong)

/-- 'strawloftkeep.SynodOne': WHATEVER THE INPUT: true; the input reads as it did. -/
def synodOneSpec : ChangeSpec := { name := "synodOne", fn := fun _ => fun
  | [d1, d2] => { results := [.lit (.bool true)], args := [d1, d2] }
  | _ => none }
def synodOneRow : OpenClaim := { program := "ytpoielmbdofjlaa", sum := "26f3407e93086b93c7b7e2829bcce2e2a448cb3c5b73f51294387452ac2c528e", func := "strawloft/strawloftkeep.SynodOne", spec := "synodOne", unfollowed := true, recurses := true, apart := false }
def SynodOneSaid : Prop := synodOneRow.holds Try.pinned (OpenSpec.ofChange synodOneSpec)

/-- ITS FALSE NEIGHBOUR: 'it returns false'. Refute it at one input. -/
def synodOneWrong : ChangeSpec := { name := "synodOne", fn := fun _ => fun
  | [d1, d2] => { results := [.lit (.bool false)], args := [d1, d2] }
  | _ => none }
def SynodOneWrongFalsely : Prop := synodOneRow.holds Try.pinned (OpenSpec.ofChange synodOneWrong)

/-- 'strawloftkeep.SynodStays': WHATEVER THE INPUT: true; the input reads as it did. -/
def synodStaysSpec : ChangeSpec := { name := "synodStays", fn := fun _ => fun
  | [d1, d2, d3] => { results := [.lit (.bool true)], args := [d1, d2, d3] }
  | _ => none }
def synodStaysRow : OpenClaim := { program := "ytpoielmbdofjlaa", sum := "26f3407e93086b93c7b7e2829bcce2e2a448cb3c5b73f51294387452ac2c528e", func := "strawloft/strawloftkeep.SynodStays", spec := "synodStays", unfollowed := true, recurses := true, apart := false }
def SynodStaysSaid : Prop := synodStaysRow.holds Try.pinned (OpenSpec.ofChange synodStaysSpec)

/-- ITS FALSE NEIGHBOUR: 'it returns false'. Refute it at one input. -/
def synodStaysWrong : ChangeSpec := { name := "synodStays", fn := fun _ => fun
  | [d1, d2, d3] => { results := [.lit (.bool false)], args := [d1, d2, d3] }
  | _ => none }
def SynodStaysWrongFalsely : Prop := synodStaysRow.holds Try.pinned (OpenSpec.ofChange synodStaysWrong)

/-- 'strawloftkeep.SynodLive': WHATEVER THE INPUT: true; the input reads as it did. -/
def synodLiveSpec : ChangeSpec := { name := "synodLive", fn := fun _ => fun
  | [d1, d2, d3, d4] => { results := [.lit (.bool true)], args := [d1, d2, d3, d4] }
  | _ => none }
def synodLiveRow : OpenClaim := { program := "ytpoielmbdofjlaa", sum := "26f3407e93086b93c7b7e2829bcce2e2a448cb3c5b73f51294387452ac2c528e", func := "strawloft/strawloftkeep.SynodLive", spec := "synodLive", unfollowed := true, recurses := true, apart := false }
def SynodLiveSaid : Prop := synodLiveRow.holds Try.pinned (OpenSpec.ofChange synodLiveSpec)

/-- ITS FALSE NEIGHBOUR: 'it returns false'. Refute it at one input. -/
def synodLiveWrong : ChangeSpec := { name := "synodLive", fn := fun _ => fun
  | [d1, d2, d3, d4] => { results := [.lit (.bool false)], args := [d1, d2, d3, d4] }
  | _ => none }
def SynodLiveWrongFalsely : Prop := synodLiveRow.holds Try.pinned (OpenSpec.ofChange synodLiveWrong)

/-- 'strawloftkeep.SynodOld': WHATEVER THE INPUT: true; the input reads as it did. -/
def synodOldSpec : ChangeSpec := { name := "synodOld", fn := fun _ => fun
  | [d1, d2, d3] => { results := [.lit (.bool true)], args := [d1, d2, d3] }
  | _ => none }
def synodOldRow : OpenClaim := { program := "ytpoielmbdofjlaa", sum := "26f3407e93086b93c7b7e2829bcce2e2a448cb3c5b73f51294387452ac2c528e", func := "strawloft/strawloftkeep.SynodOld", spec := "synodOld", unfollowed := true, recurses := true, apart := false }
def SynodOldSaid : Prop := synodOldRow.holds Try.pinned (OpenSpec.ofChange synodOldSpec)

/-- ITS FALSE NEIGHBOUR: 'it returns false'. Refute it at one input. -/
def synodOldWrong : ChangeSpec := { name := "synodOld", fn := fun _ => fun
  | [d1, d2, d3] => { results := [.lit (.bool false)], args := [d1, d2, d3] }
  | _ => none }
def SynodOldWrongFalsely : Prop := synodOldRow.holds Try.pinned (OpenSpec.ofChange synodOldWrong)

/- THE SECOND FORM. 'bulk': how many values and letters a reading holds, each counted each time it is reached (what is shared counts as often as it is met; a slice's spare places count too). A statement '..UptoSaid' is the law's where the arguments, and the package variables that the reading takes, are together of bulk at most 1048576: NARROWER than '..Said'. Prove '..Said' where nothing that the law and all that it calls make is longer than what came in: it says more and counts as full. Else prove '..UptoSaid'. A law counts once. -/
mutual
def uptoBulk {H : Type} : DataW H → Nat
  | .lit (.string bytes) => bytes.length + 1
  | .lit _ => 1
  | .nil => 1
  | .ptr d => uptoBulk d + 1
  | .slice elems spare => uptoBulkAll elems + uptoBulkAll spare + 1
  | .agg parts => uptoBulkAll parts + 1
  | .iface _ d => uptoBulk d + 1
  | .map entries => uptoBulkEntries entries + 1
  | .held _ => 1
def uptoBulkAll {H : Type} : List (DataW H) → Nat
  | [] => 0
  | d :: r => uptoBulk d + uptoBulkAll r
def uptoBulkEntries {H : Type} : List (Lit × DataW H) → Nat
  | [] => 0
  | x :: r => uptoBulkEntry x + uptoBulkEntries r
def uptoBulkEntry {H : Type} : Lit × DataW H → Nat
  | (.string bytes, d) => bytes.length + uptoBulk d + 1
  | (_, d) => uptoBulk d + 1
 end
def uptoSmall : (H : Type) → List (DataW H) → Bool := fun _ ds => decide (uptoBulkAll ds ≤ 1048576)
def OpenSpec.upto (s : _root_.Go.ChangeSpec) : _root_.Go.OpenSpec := { _root_.Go.OpenSpec.ofChange s with cond := some uptoSmall }

/-- 'strawloftlaw.SynodPlays', WHERE WHAT IT READS IS OF BULK AT MOST 1048576: true; the input reads as it did. -/
def synodPlaysUptoRow : OpenClaim := { program := "ytpoielmbdofjlaa", sum := "26f3407e93086b93c7b7e2829bcce2e2a448cb3c5b73f51294387452ac2c528e", func := "strawloft/strawloftlaw.SynodPlays", spec := "synodPlays", unfollowed := true, recurses := true, apart := false, narrowed := true }
def SynodPlaysUptoSaid : Prop := synodPlaysUptoRow.holds Try.pinned (OpenSpec.upto synodPlaysSpec)

/-- 'strawloftkeep.SynodOne', WHERE WHAT IT READS IS OF BULK AT MOST 1048576: true; the input reads as it did. -/
def synodOneUptoRow : OpenClaim := { program := "ytpoielmbdofjlaa", sum := "26f3407e93086b93c7b7e2829bcce2e2a448cb3c5b73f51294387452ac2c528e", func := "strawloft/strawloftkeep.SynodOne", spec := "synodOne", unfollowed := true, recurses := true, apart := false, narrowed := true }
def SynodOneUptoSaid : Prop := synodOneUptoRow.holds Try.pinned (OpenSpec.upto synodOneSpec)

/-- 'strawloftkeep.SynodStays', WHERE WHAT IT READS IS OF BULK AT MOST 1048576: true; the input reads as it did. -/
def synodStaysUptoRow : OpenClaim := { program := "ytpoielmbdofjlaa", sum := "26f3407e93086b93c7b7e2829bcce2e2a448cb3c5b73f51294387452ac2c528e", func := "strawloft/strawloftkeep.SynodStays", spec := "synodStays", unfollowed := true, recurses := true, apart := false, narrowed := true }
def SynodStaysUptoSaid : Prop := synodStaysUptoRow.holds Try.pinned (OpenSpec.upto synodStaysSpec)

/-- 'strawloftkeep.SynodLive', WHERE WHAT IT READS IS OF BULK AT MOST 1048576: true; the input reads as it did. -/
def synodLiveUptoRow : OpenClaim := { program := "ytpoielmbdofjlaa", sum := "26f3407e93086b93c7b7e2829bcce2e2a448cb3c5b73f51294387452ac2c528e", func := "strawloft/strawloftkeep.SynodLive", spec := "synodLive", unfollowed := true, recurses := true, apart := false, narrowed := true }
def SynodLiveUptoSaid : Prop := synodLiveUptoRow.holds Try.pinned (OpenSpec.upto synodLiveSpec)

/-- 'strawloftkeep.SynodOld', WHERE WHAT IT READS IS OF BULK AT MOST 1048576: true; the input reads as it did. -/
def synodOldUptoRow : OpenClaim := { program := "ytpoielmbdofjlaa", sum := "26f3407e93086b93c7b7e2829bcce2e2a448cb3c5b73f51294387452ac2c528e", func := "strawloft/strawloftkeep.SynodOld", spec := "synodOld", unfollowed := true, recurses := true, apart := false, narrowed := true }
def SynodOldUptoSaid : Prop := synodOldUptoRow.holds Try.pinned (OpenSpec.upto synodOldSpec)

end Rows
end Go.Proofs.Ytpoielmbdofjlaa
