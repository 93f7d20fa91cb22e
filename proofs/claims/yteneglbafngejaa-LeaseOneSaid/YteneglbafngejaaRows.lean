/-
  No cell of these rows narrows 'for every input' (looked for: loops, veiled, ifaces, maps, wideKeys, modest, calm, conditions, laid).
  DERIVED. THE GIVEN ROWS OF THIS SEAT. 5 by the template 'for every input the law returns true; each argument reads behind the call as it read before'; 0 by the template 'total and deterministic' (their statements: YteneglbafngejaaTotals.lean).
  GIVEN WITH THE SEED: the statements are not yours to turn. If you find one false, say at which input.
  Laid BY PROGRAM, IN A SANDBOX (cutbox-rows.mjs): the forced cells as the released guide's own fill.sh prints them over the translation ea4fcaed0216e7cf… (all of the seat's roots in one cut). By AI agents, Wed Nov 11 2026. No macro, syntax, notation, axiom, sorry.
-/
import Derived.Test.YteneglbafngejaaChecked
import GoSem.Claim
import GoSem.ClaimJoined
import GoSem.ClaimMapViews
import Derived.JoinedTies
import Derived.KernelRfl
namespace Go.Proofs.Yteneglbafngejaa
/- THE CELL 'sum', in the pinned program and in every row, IS THE sha256 OF THE DUMP (.gsa) THAT YteneglbafngejaaProg.lean LOADS. Nothing in Lean hashes anything: it is a label: what it is worth is what the hold of that sum in a sandbox is worth. -/
noncomputable def Try.pinned : Pinned := { name := "yteneglbafngejaa", sum := "ea4fcaed0216e7cf7bb428880cbe6d138af153831ecd496d286a27171360aafd", checked := Try.checked }
namespace Rows
def none {H : Type} : Left H := { results := [], args := [] }

/-- 'strawloftlaw.LeasePlays': WHATEVER THE INPUT: true; the input reads as it did. -/
def leasePlaysSpec : ChangeSpec := { name := "leasePlays", fn := fun _ => fun
  | [d1, d2, d3, d4] => { results := [.lit (.bool true)], args := [d1, d2, d3, d4] }
  | _ => none }
def leasePlaysRow : OpenClaim := { program := "yteneglbafngejaa", sum := "ea4fcaed0216e7cf7bb428880cbe6d138af153831ecd496d286a27171360aafd", func := "strawloft/strawloftlaw.LeasePlays", spec := "leasePlays", apart := false }
def LeasePlaysSaid : Prop := leasePlaysRow.holds Try.pinned (OpenSpec.ofChange leasePlaysSpec)

/-- ITS FALSE NEIGHBOUR: 'it returns false'. Refute it at one input. -/
def leasePlaysWrong : ChangeSpec := { name := "leasePlays", fn := fun _ => fun
  | [d1, d2, d3, d4] => { results := [.lit (.bool false)], args := [d1, d2, d3, d4] }
  | _ => none }
def LeasePlaysWrongFalsely : Prop := leasePlaysRow.holds Try.pinned (OpenSpec.ofChange leasePlaysWrong)

/-- 'strawloftkeep.LeaseOne': WHATEVER THE INPUT: true; the input reads as it did. -/
def leaseOneSpec : ChangeSpec := { name := "leaseOne", fn := fun _ => fun
  | [d1, d2, d3, d4] => { results := [.lit (.bool true)], args := [d1, d2, d3, d4] }
  | _ => none }
def leaseOneRow : OpenClaim := { program := "yteneglbafngejaa", sum := "ea4fcaed0216e7cf7bb428880cbe6d138af153831ecd496d286a27171360aafd", func := "strawloft/strawloftkeep.LeaseOne", spec := "leaseOne", apart := false }
def LeaseOneSaid : Prop := leaseOneRow.holds Try.pinned (OpenSpec.ofChange leaseOneSpec)

/-- ITS FALSE NEIGHBOUR: 'it returns false'. Refute it at one input. -/
def leaseOneWrong : ChangeSpec := { name := "leaseOne", fn := fun _ => fun
  | [d1, d2, d3, d4] => { results := [.lit (.bool false)], args := [d1, d2, d3, d4] }
  | _ => none }
def LeaseOneWrongFalsely : Prop := leaseOneRow.holds Try.pinned (OpenSpec.ofChange leaseOneWrong)

/-- 'strawloftkeep.LeaseEnd': WHATEVER THE INPUT: true; the input reads as it did. -/
def leaseEndSpec : ChangeSpec := { name := "leaseEnd", fn := fun _ => fun
  | [d1, d2, d3, d4, d5] => { results := [.lit (.bool true)], args := [d1, d2, d3, d4, d5] }
  | _ => none }
def leaseEndRow : OpenClaim := { program := "yteneglbafngejaa", sum := "ea4fcaed0216e7cf7bb428880cbe6d138af153831ecd496d286a27171360aafd", func := "strawloft/strawloftkeep.LeaseEnd", spec := "leaseEnd", apart := false }
def LeaseEndSaid : Prop := leaseEndRow.holds Try.pinned (OpenSpec.ofChange leaseEndSpec)

/-- ITS FALSE NEIGHBOUR: 'it returns false'. Refute it at one input. -/
def leaseEndWrong : ChangeSpec := { name := "leaseEnd", fn := fun _ => fun
  | [d1, d2, d3, d4, d5] => { results := [.lit (.bool false)], args := [d1, d2, d3, d4, d5] }
  | _ => none }
def LeaseEndWrongFalsely : Prop := leaseEndRow.holds Try.pinned (OpenSpec.ofChange leaseEndWrong)

/-- 'strawloftkeep.LeaseAgain': WHATEVER THE INPUT: true; the input reads as it did. -/
def leaseAgainSpec : ChangeSpec := { name := "leaseAgain", fn := fun _ => fun
  | [d1, d2, d3, d4, d5] => { results := [.lit (.bool true)], args := [d1, d2, d3, d4, d5] }
  | _ => none }
def leaseAgainRow : OpenClaim := { program := "yteneglbafngejaa", sum := "ea4fcaed0216e7cf7bb428880cbe6d138af153831ecd496d286a27171360aafd", func := "strawloft/strawloftkeep.LeaseAgain", spec := "leaseAgain", apart := false }
def LeaseAgainSaid : Prop := leaseAgainRow.holds Try.pinned (OpenSpec.ofChange leaseAgainSpec)

/-- ITS FALSE NEIGHBOUR: 'it returns false'. Refute it at one input. -/
def leaseAgainWrong : ChangeSpec := { name := "leaseAgain", fn := fun _ => fun
  | [d1, d2, d3, d4, d5] => { results := [.lit (.bool false)], args := [d1, d2, d3, d4, d5] }
  | _ => none }
def LeaseAgainWrongFalsely : Prop := leaseAgainRow.holds Try.pinned (OpenSpec.ofChange leaseAgainWrong)

/-- 'strawloftkeep.LeaseAhead': WHATEVER THE INPUT: true; the input reads as it did. -/
def leaseAheadSpec : ChangeSpec := { name := "leaseAhead", fn := fun _ => fun
  | [d1, d2, d3, d4, d5] => { results := [.lit (.bool true)], args := [d1, d2, d3, d4, d5] }
  | _ => none }
def leaseAheadRow : OpenClaim := { program := "yteneglbafngejaa", sum := "ea4fcaed0216e7cf7bb428880cbe6d138af153831ecd496d286a27171360aafd", func := "strawloft/strawloftkeep.LeaseAhead", spec := "leaseAhead", apart := false }
def LeaseAheadSaid : Prop := leaseAheadRow.holds Try.pinned (OpenSpec.ofChange leaseAheadSpec)

/-- ITS FALSE NEIGHBOUR: 'it returns false'. Refute it at one input. -/
def leaseAheadWrong : ChangeSpec := { name := "leaseAhead", fn := fun _ => fun
  | [d1, d2, d3, d4, d5] => { results := [.lit (.bool false)], args := [d1, d2, d3, d4, d5] }
  | _ => none }
def LeaseAheadWrongFalsely : Prop := leaseAheadRow.holds Try.pinned (OpenSpec.ofChange leaseAheadWrong)

/- THE SECOND FORM. 'bulk': how many values and letters a reading holds, each counted each time it is reached (what is shared counts as often as it is met; a slice's spare places count too). A statement '..UptoSaid' is the law's where the arguments, and the package variables that the reading takes, are together of bulk at most 1048576: NARROWER than '..Said'. Prove '..Said' where nothing that the law and all that it calls make is longer than what came in: it says more and counts as full. Else prove '..UptoSaid'. A law counts once. -/
mutual
def uptoBulk {H : Type} : DataW H → Nat
  | .lit (.string bytes) => bytes.length + 1
  | .lit _ => 1
  | .nil => 1
  | .ptr d => uptoBulk d + 1
  | .slice elems spare => uptoBulkAll elems + uptoBulkAll spare + 1
  | .agg parts => uptoBulkAll parts + 1
  | .iface _ d => uptoBulk d + 1
  | .map entries => uptoBulkEntries entries + 1
  | .held _ => 1
def uptoBulkAll {H : Type} : List (DataW H) → Nat
  | [] => 0
  | d :: r => uptoBulk d + uptoBulkAll r
def uptoBulkEntries {H : Type} : List (Lit × DataW H) → Nat
  | [] => 0
  | x :: r => uptoBulkEntry x + uptoBulkEntries r
def uptoBulkEntry {H : Type} : Lit × DataW H → Nat
  | (.string bytes, d) => bytes.length + uptoBulk d + 1
  | (_, d) => uptoBulk d + 1
 end
def uptoSmall : (H : Type) → List (DataW H) → Bool := fun _ ds => decide (uptoBulkAll ds ≤ 1048576)
def OpenSpec.upto (s : _root_.Go.ChangeSpec) : _root_.Go.OpenSpec := { _root_.Go.OpenSpec.ofChange s with cond := some uptoSmall }

/-- 'strawloftlaw.LeasePlays', WHERE WHAT IT READS IS OF BULK AT MOST 1048576: true; the input reads as it did. -/
def leasePlaysUptoRow : OpenClaim := { program := "yteneglbafngejaa", sum := "ea4fcaed0216e7cf7bb428880cbe6d138af153831ecd496d286a27171360aafd", func := "strawloft/strawloftlaw.LeasePlays", spec := "leasePlays", apart := false, narrowed := true }
def LeasePlaysUptoSaid : Prop := leasePlaysUptoRow.holds Try.pinned (OpenSpec.upto leasePlaysSpec)

/-- 'strawloftkeep.LeaseOne', WHERE WHAT IT READS IS OF BULK AT MOST 1048576: true; the input reads as it did. -/
def leaseOneUptoRow : OpenClaim := { program := "yteneglbafngejaa", sum := "ea4fcaed0216e7cf7bb428880cbe6d138af153831ecd496d286a27171360aafd", func := "strawloft/strawloftkeep.LeaseOne", spec := "leaseOne", apart := false, narrowed := true }
def LeaseOneUptoSaid : Prop := leaseOneUptoRow.holds Try.pinned (OpenSpec.upto leaseOneSpec)

/-- 'strawloftkeep.LeaseEnd', WHERE WHAT IT READS IS OF BULK AT MOST 1048576: true; the input reads as it did. -/
def leaseEndUptoRow : OpenClaim := { program := "yteneglbafngejaa", sum := "ea4fcaed0216e7cf7bb428880cbe6d138af153831ecd496d286a27171360aafd", func := "strawloft/strawloftkeep.LeaseEnd", spec := "leaseEnd", apart := false, narrowed := true }
def LeaseEndUptoSaid : Prop := leaseEndUptoRow.holds Try.pinned (OpenSpec.upto leaseEndSpec)

/-- 'strawloftkeep.LeaseAgain', WHERE WHAT IT READS IS OF BULK AT MOST 1048576: true; the input reads as it did. -/
def leaseAgainUptoRow : OpenClaim := { program := "yteneglbafngejaa", sum := "ea4fcaed0216e7cf7bb428880cbe6d138af153831ecd496d286a27171360aafd", func := "strawloft/strawloftkeep.LeaseAgain", spec := "leaseAgain", apart := false, narrowed := true }
def LeaseAgainUptoSaid : Prop := leaseAgainUptoRow.holds Try.pinned (OpenSpec.upto leaseAgainSpec)

/-- 'strawloftkeep.LeaseAhead', WHERE WHAT IT READS IS OF BULK AT MOST 1048576: true; the input reads as it did. -/
def leaseAheadUptoRow : OpenClaim := { program := "yteneglbafngejaa", sum := "ea4fcaed0216e7cf7bb428880cbe6d138af153831ecd496d286a27171360aafd", func := "strawloft/strawloftkeep.LeaseAhead", spec := "leaseAhead", apart := false, narrowed := true }
def LeaseAheadUptoSaid : Prop := leaseAheadUptoRow.holds Try.pinned (OpenSpec.upto leaseAheadSpec)

end Rows
end Go.Proofs.Yteneglbafngejaa
