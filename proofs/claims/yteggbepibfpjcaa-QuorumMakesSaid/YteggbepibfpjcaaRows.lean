/-
  No cell of these rows narrows 'for every input' (looked for: loops, veiled, ifaces, maps, wideKeys, modest, calm, conditions, laid).
  DERIVED. THE GIVEN ROWS OF THIS SEAT. 7 by the template 'for every input the law returns true; each argument reads behind the call as it read before'; 0 by the template 'total and deterministic' (their statements: YteggbepibfpjcaaTotals.lean).
  GIVEN WITH THE SEED: the statements are not yours to turn. If you find one false, say at which input.
  Laid BY PROGRAM, IN A SANDBOX (cutbox-rows.mjs): the forced cells as the released guide's own fill.sh prints them over the translation f508d999a4e8e8ce… (all of the seat's roots in one cut). By AI agents, Wed Nov 11 2026. No macro, syntax, notation, axiom, sorry.
-/
import Derived.Test.YteggbepibfpjcaaChecked
import GoSem.Claim
import GoSem.ClaimJoined
import GoSem.ClaimMapViews
import Derived.JoinedTies
import Derived.KernelRfl
namespace Go.Proofs.Yteggbepibfpjcaa
/- THE CELL 'sum', in the pinned program and in every row, IS THE sha256 OF THE DUMP (.gsa) THAT YteggbepibfpjcaaProg.lean LOADS. Nothing in Lean hashes anything: it is a label: what it is worth is what the hold of that sum in a sandbox is worth. -/
noncomputable def Try.pinned : Pinned := { name := "yteggbepibfpjcaa", sum := "f508d999a4e8e8cef716c1b961323952c843127a3ba1ef62da21804f47eac1c6", checked := Try.checked }
namespace Rows
def none {H : Type} : Left H := { results := [], args := [] }

/-- 'strawloftlaw.QuorumMakes': WHATEVER THE INPUT: true; the input reads as it did. -/
def quorumMakesSpec : ChangeSpec := { name := "quorumMakes", fn := fun _ => fun
  | [d1, d2, d3, d4, d5, d6] => { results := [.lit (.bool true)], args := [d1, d2, d3, d4, d5, d6] }
  | _ => none }
def quorumMakesRow : OpenClaim := { program := "yteggbepibfpjcaa", sum := "f508d999a4e8e8cef716c1b961323952c843127a3ba1ef62da21804f47eac1c6", func := "strawloft/strawloftlaw.QuorumMakes", spec := "quorumMakes", unfollowed := true, recurses := true, apart := false }
def QuorumMakesSaid : Prop := quorumMakesRow.holds Try.pinned (OpenSpec.ofChange quorumMakesSpec)

/-- ITS FALSE NEIGHBOUR: 'it returns false'. Refute it at one input. -/
def quorumMakesWrong : ChangeSpec := { name := "quorumMakes", fn := fun _ => fun
  | [d1, d2, d3, d4, d5, d6] => { results := [.lit (.bool false)], args := [d1, d2, d3, d4, d5, d6] }
  | _ => none }
def QuorumMakesWrongFalsely : Prop := quorumMakesRow.holds Try.pinned (OpenSpec.ofChange quorumMakesWrong)

/-- 'strawloftlaw.QuorumLeast': WHATEVER THE INPUT: true; the input reads as it did. -/
def quorumLeastSpec : ChangeSpec := { name := "quorumLeast", fn := fun _ => fun
  | [d1, d2] => { results := [.lit (.bool true)], args := [d1, d2] }
  | _ => none }
def quorumLeastRow : OpenClaim := { program := "yteggbepibfpjcaa", sum := "f508d999a4e8e8cef716c1b961323952c843127a3ba1ef62da21804f47eac1c6", func := "strawloft/strawloftlaw.QuorumLeast", spec := "quorumLeast", unfollowed := true, recurses := true, apart := false }
def QuorumLeastSaid : Prop := quorumLeastRow.holds Try.pinned (OpenSpec.ofChange quorumLeastSpec)

/-- ITS FALSE NEIGHBOUR: 'it returns false'. Refute it at one input. -/
def quorumLeastWrong : ChangeSpec := { name := "quorumLeast", fn := fun _ => fun
  | [d1, d2] => { results := [.lit (.bool false)], args := [d1, d2] }
  | _ => none }
def QuorumLeastWrongFalsely : Prop := quorumLeastRow.holds Try.pinned (OpenSpec.ofChange quorumLeastWrong)

/-- 'strawloftkeep.QuorumMeets': WHATEVER THE INPUT: true; the input reads as it did. -/
def quorumMeetsSpec : ChangeSpec := { name := "quorumMeets", fn := fun _ => fun
  | [d1, d2, d3] => { results := [.lit (.bool true)], args := [d1, d2, d3] }
  | _ => none }
def quorumMeetsRow : OpenClaim := { program := "yteggbepibfpjcaa", sum := "f508d999a4e8e8cef716c1b961323952c843127a3ba1ef62da21804f47eac1c6", func := "strawloft/strawloftkeep.QuorumMeets", spec := "quorumMeets", unfollowed := true, recurses := true, apart := false }
def QuorumMeetsSaid : Prop := quorumMeetsRow.holds Try.pinned (OpenSpec.ofChange quorumMeetsSpec)

/-- ITS FALSE NEIGHBOUR: 'it returns false'. Refute it at one input. -/
def quorumMeetsWrong : ChangeSpec := { name := "quorumMeets", fn := fun _ => fun
  | [d1, d2, d3] => { results := [.lit (.bool false)], args := [d1, d2, d3] }
  | _ => none }
def QuorumMeetsWrongFalsely : Prop := quorumMeetsRow.holds Try.pinned (OpenSpec.ofChange quorumMeetsWrong)

/-- 'strawloftkeep.QuorumDual': WHATEVER THE INPUT: true; the input reads as it did. -/
def quorumDualSpec : ChangeSpec := { name := "quorumDual", fn := fun _ => fun
  | [d1, d2] => { results := [.lit (.bool true)], args := [d1, d2] }
  | _ => none }
def quorumDualRow : OpenClaim := { program := "yteggbepibfpjcaa", sum := "f508d999a4e8e8cef716c1b961323952c843127a3ba1ef62da21804f47eac1c6", func := "strawloft/strawloftkeep.QuorumDual", spec := "quorumDual", unfollowed := true, recurses := true, apart := false }
def QuorumDualSaid : Prop := quorumDualRow.holds Try.pinned (OpenSpec.ofChange quorumDualSpec)

/-- ITS FALSE NEIGHBOUR: 'it returns false'. Refute it at one input. -/
def quorumDualWrong : ChangeSpec := { name := "quorumDual", fn := fun _ => fun
  | [d1, d2] => { results := [.lit (.bool false)], args := [d1, d2] }
  | _ => none }
def QuorumDualWrongFalsely : Prop := quorumDualRow.holds Try.pinned (OpenSpec.ofChange quorumDualWrong)

/-- 'strawloftkeep.QuorumOdd': WHATEVER THE INPUT: true; the input reads as it did. -/
def quorumOddSpec : ChangeSpec := { name := "quorumOdd", fn := fun _ => fun
  | [d] => { results := [.lit (.bool true)], args := [d] }
  | _ => none }
def quorumOddRow : OpenClaim := { program := "yteggbepibfpjcaa", sum := "f508d999a4e8e8cef716c1b961323952c843127a3ba1ef62da21804f47eac1c6", func := "strawloft/strawloftkeep.QuorumOdd", spec := "quorumOdd", unfollowed := true, recurses := true, apart := false }
def QuorumOddSaid : Prop := quorumOddRow.holds Try.pinned (OpenSpec.ofChange quorumOddSpec)

/-- ITS FALSE NEIGHBOUR: 'it returns false'. Refute it at one input. -/
def quorumOddWrong : ChangeSpec := { name := "quorumOdd", fn := fun _ => fun
  | [d] => { results := [.lit (.bool false)], args := [d] }
  | _ => none }
def QuorumOddWrongFalsely : Prop := quorumOddRow.holds Try.pinned (OpenSpec.ofChange quorumOddWrong)

/-- 'strawloftkeep.QuorumLive': WHATEVER THE INPUT: true; the input reads as it did. -/
def quorumLiveSpec : ChangeSpec := { name := "quorumLive", fn := fun _ => fun
  | [d1, d2] => { results := [.lit (.bool true)], args := [d1, d2] }
  | _ => none }
def quorumLiveRow : OpenClaim := { program := "yteggbepibfpjcaa", sum := "f508d999a4e8e8cef716c1b961323952c843127a3ba1ef62da21804f47eac1c6", func := "strawloft/strawloftkeep.QuorumLive", spec := "quorumLive", unfollowed := true, recurses := true, apart := false }
def QuorumLiveSaid : Prop := quorumLiveRow.holds Try.pinned (OpenSpec.ofChange quorumLiveSpec)

/-- ITS FALSE NEIGHBOUR: 'it returns false'. Refute it at one input. -/
def quorumLiveWrong : ChangeSpec := { name := "quorumLive", fn := fun _ => fun
  | [d1, d2] => { results := [.lit (.bool false)], args := [d1, d2] }
  | _ => none }
def QuorumLiveWrongFalsely : Prop := quorumLiveRow.holds Try.pinned (OpenSpec.ofChange quorumLiveWrong)

/-- 'strawloftkeep.QuorumFew': WHATEVER THE INPUT: true; the input reads as it did. -/
def quorumFewSpec : ChangeSpec := { name := "quorumFew", fn := fun _ => fun
  | [d1, d2] => { results := [.lit (.bool true)], args := [d1, d2] }
  | _ => none }
def quorumFewRow : OpenClaim := { program := "yteggbepibfpjcaa", sum := "f508d999a4e8e8cef716c1b961323952c843127a3ba1ef62da21804f47eac1c6", func := "strawloft/strawloftkeep.QuorumFew", spec := "quorumFew", unfollowed := true, recurses := true, apart := false }
def QuorumFewSaid : Prop := quorumFewRow.holds Try.pinned (OpenSpec.ofChange quorumFewSpec)

/-- ITS FALSE NEIGHBOUR: 'it returns false'. Refute it at one input. -/
def quorumFewWrong : ChangeSpec := { name := "quorumFew", fn := fun _ => fun
  | [d1, d2] => { results := [.lit (.bool false)], args := [d1, d2] }
  | _ => none }
def QuorumFewWrongFalsely : Prop := quorumFewRow.holds Try.pinned (OpenSpec.ofChange quorumFewWrong)

/- THE SECOND FORM. 'bulk': how many values and letters a reading holds, each counted each time it is reached (what is shared counts as often as it is met; a slice's spare places count too). A statement '..UptoSaid' is the law's where the arguments, and the package variables that the reading takes, are together of bulk at most 1048576: NARROWER than '..Said'. Prove '..Said' where nothing that the law and all that it calls make is longer than what came in: it says more and counts as full. Else prove '..UptoSaid'. A law counts once. -/
mutual
def uptoBulk {H : Type} : DataW H → Nat
  | .lit (.string bytes) => bytes.length + 1
  | .lit _ => 1
  | .nil => 1
  | .ptr d => uptoBulk d + 1
  | .slice elems spare => uptoBulkAll elems + uptoBulkAll spare + 1
  | .agg parts => uptoBulkAll parts + 1
  | .iface _ d => uptoBulk d + 1
  | .map entries => uptoBulkEntries entries + 1
  | .held _ => 1
def uptoBulkAll {H : Type} : List (DataW H) → Nat
  | [] => 0
  | d :: r => uptoBulk d + uptoBulkAll r
def uptoBulkEntries {H : Type} : List (Lit × DataW H) → Nat
  | [] => 0
  | x :: r => uptoBulkEntry x + uptoBulkEntries r
def uptoBulkEntry {H : Type} : Lit × DataW H → Nat
  | (.string bytes, d) => bytes.length + uptoBulk d + 1
  | (_, d) => uptoBulk d + 1
 end
def uptoSmall : (H : Type) → List (DataW H) → Bool := fun _ ds => decide (uptoBulkAll ds ≤ 1048576)
def OpenSpec.upto (s : _root_.Go.ChangeSpec) : _root_.Go.OpenSpec := { _root_.Go.OpenSpec.ofChange s with cond := some uptoSmall }

/-- 'strawloftlaw.QuorumMakes', WHERE WHAT IT READS IS OF BULK AT MOST 1048576: true; the input reads as it did. -/
def quorumMakesUptoRow : OpenClaim := { program := "yteggbepibfpjcaa", sum := "f508d999a4e8e8cef716c1b961323952c843127a3ba1ef62da21804f47eac1c6", func := "strawloft/strawloftlaw.QuorumMakes", spec := "quorumMakes", unfollowed := true, recurses := true, apart := false, narrowed := true }
def QuorumMakesUptoSaid : Prop := quorumMakesUptoRow.holds Try.pinned (OpenSpec.upto quorumMakesSpec)

/-- 'strawloftlaw.QuorumLeast', WHERE WHAT IT READS IS OF BULK AT MOST 1048576: true; the input reads as it did. -/
def quorumLeastUptoRow : OpenClaim := { program := "yteggbepibfpjcaa", sum := "f508d999a4e8e8cef716c1b961323952c843127a3ba1ef62da21804f47eac1c6", func := "strawloft/strawloftlaw.QuorumLeast", spec := "quorumLeast", unfollowed := true, recurses := true, apart := false, narrowed := true }
def QuorumLeastUptoSaid : Prop := quorumLeastUptoRow.holds Try.pinned (OpenSpec.upto quorumLeastSpec)

/-- 'strawloftkeep.QuorumMeets', WHERE WHAT IT READS IS OF BULK AT MOST 1048576: true; the input reads as it did. -/
def quorumMeetsUptoRow : OpenClaim := { program := "yteggbepibfpjcaa", sum := "f508d999a4e8e8cef716c1b961323952c843127a3ba1ef62da21804f47eac1c6", func := "strawloft/strawloftkeep.QuorumMeets", spec := "quorumMeets", unfollowed := true, recurses := true, apart := false, narrowed := true }
def QuorumMeetsUptoSaid : Prop := quorumMeetsUptoRow.holds Try.pinned (OpenSpec.upto quorumMeetsSpec)

/-- 'strawloftkeep.QuorumDual', WHERE WHAT IT READS IS OF BULK AT MOST 1048576: true; the input reads as it did. -/
def quorumDualUptoRow : OpenClaim := { program := "yteggbepibfpjcaa", sum := "f508d999a4e8e8cef716c1b961323952c843127a3ba1ef62da21804f47eac1c6", func := "strawloft/strawloftkeep.QuorumDual", spec := "quorumDual", unfollowed := true, recurses := true, apart := false, narrowed := true }
def QuorumDualUptoSaid : Prop := quorumDualUptoRow.holds Try.pinned (OpenSpec.upto quorumDualSpec)

/-- 'strawloftkeep.QuorumOdd', WHERE WHAT IT READS IS OF BULK AT MOST 1048576: true; the input reads as it did. -/
def quorumOddUptoRow : OpenClaim := { program := "yteggbepibfpjcaa", sum := "f508d999a4e8e8cef716c1b961323952c843127a3ba1ef62da21804f47eac1c6", func := "strawloft/strawloftkeep.QuorumOdd", spec := "quorumOdd", unfollowed := true, recurses := true, apart := false, narrowed := true }
def QuorumOddUptoSaid : Prop := quorumOddUptoRow.holds Try.pinned (OpenSpec.upto quorumOddSpec)

/-- 'strawloftkeep.QuorumLive', WHERE WHAT IT READS IS OF BULK AT MOST 1048576: true; the input reads as it did. -/
def quorumLiveUptoRow : OpenClaim := { program := "yteggbepibfpjcaa", sum := "f508d999a4e8e8cef716c1b961323952c843127a3ba1ef62da21804f47eac1c6", func := "strawloft/strawloftkeep.QuorumLive", spec := "quorumLive", unfollowed := true, recurses := true, apart := false, narrowed := true }
def QuorumLiveUptoSaid : Prop := quorumLiveUptoRow.holds Try.pinned (OpenSpec.upto quorumLiveSpec)

/-- 'strawloftkeep.QuorumFew', WHERE WHAT IT READS IS OF BULK AT MOST 1048576: true; the input reads as it did. -/
def quorumFewUptoRow : OpenClaim := { program := "yteggbepibfpjcaa", sum := "f508d999a4e8e8cef716c1b961323952c843127a3ba1ef62da21804f47eac1c6", func := "strawloft/strawloftkeep.QuorumFew", spec := "quorumFew", unfollowed := true, recurses := true, apart := false, narrowed := true }
def QuorumFewUptoSaid : Prop := quorumFewUptoRow.holds Try.pinned (OpenSpec.upto quorumFewSpec)

end Rows
end Go.Proofs.Yteggbepibfpjcaa
