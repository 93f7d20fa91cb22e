/-
  No cell of these rows narrows 'for every input' (looked for: loops, veiled, ifaces, maps, wideKeys, modest, calm, conditions, laid).
  DERIVED. THE GIVEN ROWS OF THIS SEAT. 4 by the template 'for every input the law returns true; each argument reads behind the call as it read before'; 0 by the template 'total and deterministic' (their statements: YtimbibphpaibiaaTotals.lean).
  GIVEN WITH THE SEED: the statements are not yours to turn. If you find one false, say at which input.
  Laid BY PROGRAM, IN A SANDBOX (cutbox-rows.mjs): the forced cells as the released guide's own fill.sh prints them over the translation 8e0096dec725d114… (all of the seat's roots in one cut). By AI agents, Wed Nov 11 2026. No macro, syntax, notation, axiom, sorry.
-/
import Derived.Test.YtimbibphpaibiaaChecked
import GoSem.Claim
import GoSem.ClaimJoined
import GoSem.ClaimMapViews
import Derived.JoinedTies
import Derived.KernelRfl
namespace Go.Proofs.Ytimbibphpaibiaa
/- THE CELL 'sum', in the pinned program and in every row, IS THE sha256 OF THE DUMP (.gsa) THAT YtimbibphpaibiaaProg.lean LOADS. Nothing in Lean hashes anything: it is a label: what it is worth is what the hold of that sum in a sandbox is worth. -/
noncomputable def Try.pinned : Pinned := { name := "ytimbibphpaibiaa", sum := "8e0096dec725d114603fa71553bdbffbd6e2e91374dbd81c83df34d53bf0dc01", checked := Try.checked }
namespace Rows
def none {H : Type} : Left H := { results := [], args := [] }

/-- 'strawloftlaw.MixTells': WHATEVER THE INPUT: true; the input reads as it did. -/
def mixTellsSpec : ChangeSpec := { name := "mixTells", fn := fun _ => fun
  | [d1, d2, d3] => { results := [.lit (.bool true)], args := [d1, d2, d3] }
  | _ => none }
def mixTellsRow : OpenClaim := { program := "ytimbibphpaibiaa", sum := "8e0096dec725d114603fa71553bdbffbd6e2e91374dbd81c83df34d53bf0dc01", func := "strawloft/strawloftlaw.MixTells", spec := "mixTells", apart := false }
def MixTellsSaid : Prop := mixTellsRow.holds Try.pinned (OpenSpec.ofChange mixTellsSpec)

/-- ITS FALSE NEIGHBOUR: 'it returns false'. Refute it at one input. -/
def mixTellsWrong : ChangeSpec := { name := "mixTells", fn := fun _ => fun
  | [d1, d2, d3] => { results := [.lit (.bool false)], args := [d1, d2, d3] }
  | _ => none }
def MixTellsWrongFalsely : Prop := mixTellsRow.holds Try.pinned (OpenSpec.ofChange mixTellsWrong)

/-- 'strawloftkeep.MixBack': WHATEVER THE INPUT: true; the input reads as it did. -/
def mixBackSpec : ChangeSpec := { name := "mixBack", fn := fun _ => fun
  | [d1, d2] => { results := [.lit (.bool true)], args := [d1, d2] }
  | _ => none }
def mixBackRow : OpenClaim := { program := "ytimbibphpaibiaa", sum := "8e0096dec725d114603fa71553bdbffbd6e2e91374dbd81c83df34d53bf0dc01", func := "strawloft/strawloftkeep.MixBack", spec := "mixBack", apart := false }
def MixBackSaid : Prop := mixBackRow.holds Try.pinned (OpenSpec.ofChange mixBackSpec)

/-- ITS FALSE NEIGHBOUR: 'it returns false'. Refute it at one input. -/
def mixBackWrong : ChangeSpec := { name := "mixBack", fn := fun _ => fun
  | [d1, d2] => { results := [.lit (.bool false)], args := [d1, d2] }
  | _ => none }
def MixBackWrongFalsely : Prop := mixBackRow.holds Try.pinned (OpenSpec.ofChange mixBackWrong)

/-- 'strawloftkeep.MixTwo': WHATEVER THE INPUT: true; the input reads as it did. -/
def mixTwoSpec : ChangeSpec := { name := "mixTwo", fn := fun _ => fun
  | [d1, d2, d3] => { results := [.lit (.bool true)], args := [d1, d2, d3] }
  | _ => none }
def mixTwoRow : OpenClaim := { program := "ytimbibphpaibiaa", sum := "8e0096dec725d114603fa71553bdbffbd6e2e91374dbd81c83df34d53bf0dc01", func := "strawloft/strawloftkeep.MixTwo", spec := "mixTwo", apart := false }
def MixTwoSaid : Prop := mixTwoRow.holds Try.pinned (OpenSpec.ofChange mixTwoSpec)

/-- ITS FALSE NEIGHBOUR: 'it returns false'. Refute it at one input. -/
def mixTwoWrong : ChangeSpec := { name := "mixTwo", fn := fun _ => fun
  | [d1, d2, d3] => { results := [.lit (.bool false)], args := [d1, d2, d3] }
  | _ => none }
def MixTwoWrongFalsely : Prop := mixTwoRow.holds Try.pinned (OpenSpec.ofChange mixTwoWrong)

/-- 'strawloftkeep.MixByte': WHATEVER THE INPUT: true; the input reads as it did. -/
def mixByteSpec : ChangeSpec := { name := "mixByte", fn := fun _ => fun
  | [d1, d2, d3] => { results := [.lit (.bool true)], args := [d1, d2, d3] }
  | _ => none }
def mixByteRow : OpenClaim := { program := "ytimbibphpaibiaa", sum := "8e0096dec725d114603fa71553bdbffbd6e2e91374dbd81c83df34d53bf0dc01", func := "strawloft/strawloftkeep.MixByte", spec := "mixByte", apart := false }
def MixByteSaid : Prop := mixByteRow.holds Try.pinned (OpenSpec.ofChange mixByteSpec)

/-- ITS FALSE NEIGHBOUR: 'it returns false'. Refute it at one input. -/
def mixByteWrong : ChangeSpec := { name := "mixByte", fn := fun _ => fun
  | [d1, d2, d3] => { results := [.lit (.bool false)], args := [d1, d2, d3] }
  | _ => none }
def MixByteWrongFalsely : Prop := mixByteRow.holds Try.pinned (OpenSpec.ofChange mixByteWrong)

/- THE SECOND FORM. 'bulk': how many values and letters a reading holds, each counted each time it is reached (what is shared counts as often as it is met; a slice's spare places count too). A statement '..UptoSaid' is the law's where the arguments, and the package variables that the reading takes, are together of bulk at most 1048576: NARROWER than '..Said'. Prove '..Said' where nothing that the law and all that it calls make is longer than what came in: it says more and counts as full. Else prove '..UptoSaid'. A law counts once. -/
mutual
def uptoBulk {H : Type} : DataW H → Nat
  | .lit (.string bytes) => bytes.length + 1
  | .lit _ => 1
  | .nil => 1
  | .ptr d => uptoBulk d + 1
  | .slice elems spare => uptoBulkAll elems + uptoBulkAll spare + 1
  | .agg parts => uptoBulkAll parts + 1
  | .iface _ d => uptoBulk d + 1
  | .map entries => uptoBulkEntries entries + 1
  | .held _ => 1
def uptoBulkAll {H : Type} : List (DataW H) → Nat
  | [] => 0
  | d :: r => uptoBulk d + uptoBulkAll r
def uptoBulkEntries {H : Type} : List (Lit × DataW H) → Nat
  | [] => 0
  | x :: r => uptoBulkEntry x + uptoBulkEntries r
def uptoBulkEntry {H : Type} : Lit × DataW H → Nat
  | (.string bytes, d) => bytes.length + uptoBulk d + 1
  | (_, d) => uptoBulk d + 1
 end
def uptoSmall : (H : Type) → List (DataW H) → Bool := fun _ ds => decide (uptoBulkAll ds ≤ 1048576)
def OpenSpec.upto (s : _root_.Go.ChangeSpec) : _root_.Go.OpenSpec := { _root_.Go.OpenSpec.ofChange s with cond := some uptoSmall }

/-- 'strawloftlaw.MixTells', WHERE WHAT IT READS IS OF BULK AT MOST 1048576: true; the input reads as it did. -/
def mixTellsUptoRow : OpenClaim := { program := "ytimbibphpaibiaa", sum := "8e0096dec725d114603fa71553bdbffbd6e2e91374dbd81c83df34d53bf0dc01", func := "strawloft/strawloftlaw.MixTells", spec := "mixTells", apart := false, narrowed := true }
def MixTellsUptoSaid : Prop := mixTellsUptoRow.holds Try.pinned (OpenSpec.upto mixTellsSpec)

/-- 'strawloftkeep.MixBack', WHERE WHAT IT READS IS OF BULK AT MOST 1048576: true; the input reads as it did. -/
def mixBackUptoRow : OpenClaim := { program := "ytimbibphpaibiaa", sum := "8e0096dec725d114603fa71553bdbffbd6e2e91374dbd81c83df34d53bf0dc01", func := "strawloft/strawloftkeep.MixBack", spec := "mixBack", apart := false, narrowed := true }
def MixBackUptoSaid : Prop := mixBackUptoRow.holds Try.pinned (OpenSpec.upto mixBackSpec)

/-- 'strawloftkeep.MixTwo', WHERE WHAT IT READS IS OF BULK AT MOST 1048576: true; the input reads as it did. -/
def mixTwoUptoRow : OpenClaim := { program := "ytimbibphpaibiaa", sum := "8e0096dec725d114603fa71553bdbffbd6e2e91374dbd81c83df34d53bf0dc01", func := "strawloft/strawloftkeep.MixTwo", spec := "mixTwo", apart := false, narrowed := true }
def MixTwoUptoSaid : Prop := mixTwoUptoRow.holds Try.pinned (OpenSpec.upto mixTwoSpec)

/-- 'strawloftkeep.MixByte', WHERE WHAT IT READS IS OF BULK AT MOST 1048576: true; the input reads as it did. -/
def mixByteUptoRow : OpenClaim := { program := "ytimbibphpaibiaa", sum := "8e0096dec725d114603fa71553bdbffbd6e2e91374dbd81c83df34d53bf0dc01", func := "strawloft/strawloftkeep.MixByte", spec := "mixByte", apart := false, narrowed := true }
def MixByteUptoSaid : Prop := mixByteUptoRow.holds Try.pinned (OpenSpec.upto mixByteSpec)

end Rows
end Go.Proofs.Ytimbibphpaibiaa
