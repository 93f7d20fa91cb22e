/-
  No cell of these rows narrows 'for every input' (looked for: loops, veiled, ifaces, maps, wideKeys, modest, calm, conditions, laid).
  DERIVED. THE GIVEN ROWS OF THIS SEAT. 5 by the template 'for every input the law returns true; each argument reads behind the call as it read before'; 0 by the template 'total and deterministic' (their statements: YtdkgclgccicbeaaTotals.lean).
  GIVEN WITH THE SEED: the statements are not yours to turn. If you find one false, say at which input.
  Laid BY PROGRAM, IN A SANDBOX (cutbox-rows.mjs): the forced cells as the released guide's own fill.sh prints them over the translation ee75ec468fadcec2… (all of the seat's roots in one cut). By AI agents, Wed Nov 11 2026. No macro, syntax, notation, axiom, sorry.
-/
import Derived.Test.YtdkgclgccicbeaaChecked
import GoSem.Claim
import GoSem.ClaimJoined
import GoSem.ClaimMapViews
import Derived.JoinedTies
import Derived.KernelRfl
namespace Go.Proofs.Ytdkgclgccicbeaa
/- THE CELL 'sum', in the pinned program and in every row, IS THE sha256 OF THE DUMP (.gsa) THAT YtdkgclgccicbeaaProg.lean LOADS. Nothing in Lean hashes anything: it is a label: what it is worth is what the hold of that sum in a sandbox is worth. -/
noncomputable def Try.pinned : Pinned := { name := "ytdkgclgccicbeaa", sum := "ee75ec468fadcec2c2229646dfba20e1217efc825e8e6ac879333cad63ea2fef", checked := Try.checked }
namespace Rows
def none {H : Type} : Left H := { results := [], args := [] }

/-- 'strawloftlaw.LocksPlay': WHATEVER THE INPUT: true; the input reads as it did. -/
def locksPlaySpec : ChangeSpec := { name := "locksPlay", fn := fun _ => fun
  | [d] => { results := [.lit (.bool true)], args := [d] }
  | _ => none }
def locksPlayRow : OpenClaim := { program := "ytdkgclgccicbeaa", sum := "ee75ec468fadcec2c2229646dfba20e1217efc825e8e6ac879333cad63ea2fef", func := "strawloft/strawloftlaw.LocksPlay", spec := "locksPlay", unfollowed := true, recurses := true, apart := false }
def LocksPlaySaid : Prop := locksPlayRow.holds Try.pinned (OpenSpec.ofChange locksPlaySpec)

/-- ITS FALSE NEIGHBOUR: 'it returns false'. Refute it at one input. -/
def locksPlayWrong : ChangeSpec := { name := "locksPlay", fn := fun _ => fun
  | [d] => { results := [.lit (.bool false)], args := [d] }
  | _ => none }
def LocksPlayWrongFalsely : Prop := locksPlayRow.holds Try.pinned (OpenSpec.ofChange locksPlayWrong)

/-- 'strawloftkeep.LocksRight': WHATEVER THE INPUT: true; the input reads as it did. -/
def locksRightSpec : ChangeSpec := { name := "locksRight", fn := fun _ => fun
  | [d] => { results := [.lit (.bool true)], args := [d] }
  | _ => none }
def locksRightRow : OpenClaim := { program := "ytdkgclgccicbeaa", sum := "ee75ec468fadcec2c2229646dfba20e1217efc825e8e6ac879333cad63ea2fef", func := "strawloft/strawloftkeep.LocksRight", spec := "locksRight", unfollowed := true, recurses := true, apart := false }
def LocksRightSaid : Prop := locksRightRow.holds Try.pinned (OpenSpec.ofChange locksRightSpec)

/-- ITS FALSE NEIGHBOUR: 'it returns false'. Refute it at one input. -/
def locksRightWrong : ChangeSpec := { name := "locksRight", fn := fun _ => fun
  | [d] => { results := [.lit (.bool false)], args := [d] }
  | _ => none }
def LocksRightWrongFalsely : Prop := locksRightRow.holds Try.pinned (OpenSpec.ofChange locksRightWrong)

/-- 'strawloftkeep.LocksAll': WHATEVER THE INPUT: true; the input reads as it did. -/
def locksAllSpec : ChangeSpec := { name := "locksAll", fn := fun _ => fun
  | [d] => { results := [.lit (.bool true)], args := [d] }
  | _ => none }
def locksAllRow : OpenClaim := { program := "ytdkgclgccicbeaa", sum := "ee75ec468fadcec2c2229646dfba20e1217efc825e8e6ac879333cad63ea2fef", func := "strawloft/strawloftkeep.LocksAll", spec := "locksAll", unfollowed := true, recurses := true, apart := false }
def LocksAllSaid : Prop := locksAllRow.holds Try.pinned (OpenSpec.ofChange locksAllSpec)

/-- ITS FALSE NEIGHBOUR: 'it returns false'. Refute it at one input. -/
def locksAllWrong : ChangeSpec := { name := "locksAll", fn := fun _ => fun
  | [d] => { results := [.lit (.bool false)], args := [d] }
  | _ => none }
def LocksAllWrongFalsely : Prop := locksAllRow.holds Try.pinned (OpenSpec.ofChange locksAllWrong)

/-- 'strawloftkeep.LocksFair': WHATEVER THE INPUT: true; the input reads as it did. -/
def locksFairSpec : ChangeSpec := { name := "locksFair", fn := fun _ => fun
  | [d1, d2] => { results := [.lit (.bool true)], args := [d1, d2] }
  | _ => none }
def locksFairRow : OpenClaim := { program := "ytdkgclgccicbeaa", sum := "ee75ec468fadcec2c2229646dfba20e1217efc825e8e6ac879333cad63ea2fef", func := "strawloft/strawloftkeep.LocksFair", spec := "locksFair", unfollowed := true, recurses := true, apart := false }
def LocksFairSaid : Prop := locksFairRow.holds Try.pinned (OpenSpec.ofChange locksFairSpec)

/-- ITS FALSE NEIGHBOUR: 'it returns false'. Refute it at one input. -/
def locksFairWrong : ChangeSpec := { name := "locksFair", fn := fun _ => fun
  | [d1, d2] => { results := [.lit (.bool false)], args := [d1, d2] }
  | _ => none }
def LocksFairWrongFalsely : Prop := locksFairRow.holds Try.pinned (OpenSpec.ofChange locksFairWrong)

/-- 'strawloftkeep.LocksApart': WHATEVER THE INPUT: true; the input reads as it did. -/
def locksApartSpec : ChangeSpec := { name := "locksApart", fn := fun _ => fun
  | [d1, d2] => { results := [.lit (.bool true)], args := [d1, d2] }
  | _ => none }
def locksApartRow : OpenClaim := { program := "ytdkgclgccicbeaa", sum := "ee75ec468fadcec2c2229646dfba20e1217efc825e8e6ac879333cad63ea2fef", func := "strawloft/strawloftkeep.LocksApart", spec := "locksApart", unfollowed := true, recurses := true, apart := false }
def LocksApartSaid : Prop := locksApartRow.holds Try.pinned (OpenSpec.ofChange locksApartSpec)

/-- ITS FALSE NEIGHBOUR: 'it returns false'. Refute it at one input. -/
def locksApartWrong : ChangeSpec := { name := "locksApart", fn := fun _ => fun
  | [d1, d2] => { results := [.lit (.bool false)], args := [d1, d2] }
  | _ => none }
def LocksApartWrongFalsely : Prop := locksApartRow.holds Try.pinned (OpenSpec.ofChange locksApartWrong)

/- THE SECOND FORM. 'bulk': how many values and letters a reading holds, each counted each time it is reached (what is shared counts as often as it is met; a slice's spare places count too). A statement '..UptoSaid' is the law's where the arguments, and the package variables that the reading takes, are together of bulk at most 1048576: NARROWER than '..Said'. Prove '..Said' where nothing that the law and all that it calls make is longer than what came in: it says more and counts as full. Else prove '..UptoSaid'. A law counts once. -/
mutual
def uptoBulk {H : Type} : DataW H → Nat
  | .lit (.string bytes) => bytes.length + 1
  | .lit _ => 1
  | .nil => 1
  | .ptr d => uptoBulk d + 1
  | .slice elems spare => uptoBulkAll elems + uptoBulkAll spare + 1
  | .agg parts => uptoBulkAll parts + 1
  | .iface _ d => uptoBulk d + 1
  | .map entries => uptoBulkEntries entries + 1
  | .held _ => 1
def uptoBulkAll {H : Type} : List (DataW H) → Nat
  | [] => 0
  | d :: r => uptoBulk d + uptoBulkAll r
def uptoBulkEntries {H : Type} : List (Lit × DataW H) → Nat
  | [] => 0
  | x :: r => uptoBulkEntry x + uptoBulkEntries r
def uptoBulkEntry {H : Type} : Lit × DataW H → Nat
  | (.string bytes, d) => bytes.length + uptoBulk d + 1
  | (_, d) => uptoBulk d + 1
 end
def uptoSmall : (H : Type) → List (DataW H) → Bool := fun _ ds => decide (uptoBulkAll ds ≤ 1048576)
def OpenSpec.upto (s : _root_.Go.ChangeSpec) : _root_.Go.OpenSpec := { _root_.Go.OpenSpec.ofChange s with cond := some uptoSmall }

/-- 'strawloftlaw.LocksPlay', WHERE WHAT IT READS IS OF BULK AT MOST 1048576: true; the input reads as it did. -/
def locksPlayUptoRow : OpenClaim := { program := "ytdkgclgccicbeaa", sum := "ee75ec468fadcec2c2229646dfba20e1217efc825e8e6ac879333cad63ea2fef", func := "strawloft/strawloftlaw.LocksPlay", spec := "locksPlay", unfollowed := true, recurses := true, apart := false, narrowed := true }
def LocksPlayUptoSaid : Prop := locksPlayUptoRow.holds Try.pinned (OpenSpec.upto locksPlaySpec)

/-- 'strawloftkeep.LocksRight', WHERE WHAT IT READS IS OF BULK AT MOST 1048576: true; the input reads as it did. -/
def locksRightUptoRow : OpenClaim := { program := "ytdkgclgccicbeaa", sum := "ee75ec468fadcec2c2229646dfba20e1217efc825e8e6ac879333cad63ea2fef", func := "strawloft/strawloftkeep.LocksRight", spec := "locksRight", unfollowed := true, recurses := true, apart := false, narrowed := true }
def LocksRightUptoSaid : Prop := locksRightUptoRow.holds Try.pinned (OpenSpec.upto locksRightSpec)

/-- 'strawloftkeep.LocksAll', WHERE WHAT IT READS IS OF BULK AT MOST 1048576: true; the input reads as it did. -/
def locksAllUptoRow : OpenClaim := { program := "ytdkgclgccicbeaa", sum := "ee75ec468fadcec2c2229646dfba20e1217efc825e8e6ac879333cad63ea2fef", func := "strawloft/strawloftkeep.LocksAll", spec := "locksAll", unfollowed := true, recurses := true, apart := false, narrowed := true }
def LocksAllUptoSaid : Prop := locksAllUptoRow.holds Try.pinned (OpenSpec.upto locksAllSpec)

/-- 'strawloftkeep.LocksFair', WHERE WHAT IT READS IS OF BULK AT MOST 1048576: true; the input reads as it did. -/
def locksFairUptoRow : OpenClaim := { program := "ytdkgclgccicbeaa", sum := "ee75ec468fadcec2c2229646dfba20e1217efc825e8e6ac879333cad63ea2fef", func := "strawloft/strawloftkeep.LocksFair", spec := "locksFair", unfollowed := true, recurses := true, apart := false, narrowed := true }
def LocksFairUptoSaid : Prop := locksFairUptoRow.holds Try.pinned (OpenSpec.upto locksFairSpec)

/-- 'strawloftkeep.LocksApart', WHERE WHAT IT READS IS OF BULK AT MOST 1048576: true; the input reads as it did. -/
def locksApartUptoRow : OpenClaim := { program := "ytdkgclgccicbeaa", sum := "ee75ec468fadcec2c2229646dfba20e1217efc825e8e6ac879333cad63ea2fef", func := "strawloft/strawloftkeep.LocksApart", spec := "locksApart", unfollowed := true, recurses := true, apart := false, narrowed := true }
def LocksApartUptoSaid : Prop := locksApartUptoRow.holds Try.pinned (OpenSpec.upto locksApartSpec)

end Rows
end Go.Proofs.Ytdkgclgccicbeaa
