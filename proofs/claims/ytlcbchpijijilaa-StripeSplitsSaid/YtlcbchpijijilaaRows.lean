/-
  No cell of these rows narrows 'for every input' (looked for: loops, veiled, ifaces, maps, wideKeys, modest, calm, conditions, laid).
  DERIVED. THE GIVEN ROWS OF THIS SEAT. 6 by the template 'for every input the law returns true; each argument reads behind the call as it read before'; 0 by the template 'total and deterministic' (their statements: YtlcbchpijijilaaTotals.lean).
  GIVEN WITH THE SEED: the statements are not yours to turn. If you find one false, say at which input.
  Laid BY PROGRAM, IN A SANDBOX (cutbox-rows.mjs): the forced cells as the released guide's own fill.sh prints them over the translation 55b525a06f0215ff… (all of the seat's roots in one cut). By AI agents, Wed Nov 11 2026. No macro, syntax, notation, axiom, sorry.
-/
import Derived.Test.YtlcbchpijijilaaChecked
import GoSem.Claim
import GoSem.ClaimJoined
import GoSem.ClaimMapViews
import Derived.JoinedTies
import Derived.KernelRfl
namespace Go.Proofs.Ytlcbchpijijilaa
/- THE CELL 'sum', in the pinned program and in every row, IS THE sha256 OF THE DUMP (.gsa) THAT YtlcbchpijijilaaProg.lean LOADS. Nothing in Lean hashes anything: it is a label: what it is worth is what the hold of that sum in a sandbox is worth. -/
noncomputable def Try.pinned : Pinned := { name := "ytlcbchpijijilaa", sum := "55b525a06f0215ffaa7d775e598b2c270ccd19a3a7e3a8a7db84bb754a41e843", checked := Try.checked }
namespace Rows
def none {H : Type} : Left H := { results := [], args := [] }

/-- 'strawloftlaw.StripeWhere': WHATEVER THE INPUT: true; the input reads as it did. -/
def stripeWhereSpec : ChangeSpec := { name := "stripeWhere", fn := fun _ => fun
  | [d1, d2, d3, d4] => { results := [.lit (.bool true)], args := [d1, d2, d3, d4] }
  | _ => none }
def stripeWhereRow : OpenClaim := { program := "ytlcbchpijijilaa", sum := "55b525a06f0215ffaa7d775e598b2c270ccd19a3a7e3a8a7db84bb754a41e843", func := "strawloft/strawloftlaw.StripeWhere", spec := "stripeWhere", unfollowed := true, recurses := true, apart := false }
def StripeWhereSaid : Prop := stripeWhereRow.holds Try.pinned (OpenSpec.ofChange stripeWhereSpec)

/-- ITS FALSE NEIGHBOUR: 'it returns false'. Refute it at one input. -/
def stripeWhereWrong : ChangeSpec := { name := "stripeWhere", fn := fun _ => fun
  | [d1, d2, d3, d4] => { results := [.lit (.bool false)], args := [d1, d2, d3, d4] }
  | _ => none }
def StripeWhereWrongFalsely : Prop := stripeWhereRow.holds Try.pinned (OpenSpec.ofChange stripeWhereWrong)

/-- 'strawloftlaw.StripeSplits': WHATEVER THE INPUT: true; the input reads as it did. -/
def stripeSplitsSpec : ChangeSpec := { name := "stripeSplits", fn := fun _ => fun
  | [d1, d2, d3] => { results := [.lit (.bool true)], args := [d1, d2, d3] }
  | _ => none }
def stripeSplitsRow : OpenClaim := { program := "ytlcbchpijijilaa", sum := "55b525a06f0215ffaa7d775e598b2c270ccd19a3a7e3a8a7db84bb754a41e843", func := "strawloft/strawloftlaw.StripeSplits", spec := "stripeSplits", unfollowed := true, recurses := true, apart := false }
def StripeSplitsSaid : Prop := stripeSplitsRow.holds Try.pinned (OpenSpec.ofChange stripeSplitsSpec)

/-- ITS FALSE NEIGHBOUR: 'it returns false'. Refute it at one input. -/
def stripeSplitsWrong : ChangeSpec := { name := "stripeSplits", fn := fun _ => fun
  | [d1, d2, d3] => { results := [.lit (.bool false)], args := [d1, d2, d3] }
  | _ => none }
def StripeSplitsWrongFalsely : Prop := stripeSplitsRow.holds Try.pinned (OpenSpec.ofChange stripeSplitsWrong)

/-- 'strawloftkeep.StripeBack': WHATEVER THE INPUT: true; the input reads as it did. -/
def stripeBackSpec : ChangeSpec := { name := "stripeBack", fn := fun _ => fun
  | [d1, d2, d3, d4] => { results := [.lit (.bool true)], args := [d1, d2, d3, d4] }
  | _ => none }
def stripeBackRow : OpenClaim := { program := "ytlcbchpijijilaa", sum := "55b525a06f0215ffaa7d775e598b2c270ccd19a3a7e3a8a7db84bb754a41e843", func := "strawloft/strawloftkeep.StripeBack", spec := "stripeBack", apart := false }
def StripeBackSaid : Prop := stripeBackRow.holds Try.pinned (OpenSpec.ofChange stripeBackSpec)

/-- ITS FALSE NEIGHBOUR: 'it returns false'. Refute it at one input. -/
def stripeBackWrong : ChangeSpec := { name := "stripeBack", fn := fun _ => fun
  | [d1, d2, d3, d4] => { results := [.lit (.bool false)], args := [d1, d2, d3, d4] }
  | _ => none }
def StripeBackWrongFalsely : Prop := stripeBackRow.holds Try.pinned (OpenSpec.ofChange stripeBackWrong)

/-- 'strawloftkeep.StripeAll': WHATEVER THE INPUT: true; the input reads as it did. -/
def stripeAllSpec : ChangeSpec := { name := "stripeAll", fn := fun _ => fun
  | [d1, d2, d3] => { results := [.lit (.bool true)], args := [d1, d2, d3] }
  | _ => none }
def stripeAllRow : OpenClaim := { program := "ytlcbchpijijilaa", sum := "55b525a06f0215ffaa7d775e598b2c270ccd19a3a7e3a8a7db84bb754a41e843", func := "strawloft/strawloftkeep.StripeAll", spec := "stripeAll", apart := false }
def StripeAllSaid : Prop := stripeAllRow.holds Try.pinned (OpenSpec.ofChange stripeAllSpec)

/-- ITS FALSE NEIGHBOUR: 'it returns false'. Refute it at one input. -/
def stripeAllWrong : ChangeSpec := { name := "stripeAll", fn := fun _ => fun
  | [d1, d2, d3] => { results := [.lit (.bool false)], args := [d1, d2, d3] }
  | _ => none }
def StripeAllWrongFalsely : Prop := stripeAllRow.holds Try.pinned (OpenSpec.ofChange stripeAllWrong)

/-- 'strawloftkeep.StripeParts': WHATEVER THE INPUT: true; the input reads as it did. -/
def stripePartsSpec : ChangeSpec := { name := "stripeParts", fn := fun _ => fun
  | [d1, d2, d3, d4] => { results := [.lit (.bool true)], args := [d1, d2, d3, d4] }
  | _ => none }
def stripePartsRow : OpenClaim := { program := "ytlcbchpijijilaa", sum := "55b525a06f0215ffaa7d775e598b2c270ccd19a3a7e3a8a7db84bb754a41e843", func := "strawloft/strawloftkeep.StripeParts", spec := "stripeParts", apart := false }
def StripePartsSaid : Prop := stripePartsRow.holds Try.pinned (OpenSpec.ofChange stripePartsSpec)

/-- ITS FALSE NEIGHBOUR: 'it returns false'. Refute it at one input. -/
def stripePartsWrong : ChangeSpec := { name := "stripeParts", fn := fun _ => fun
  | [d1, d2, d3, d4] => { results := [.lit (.bool false)], args := [d1, d2, d3, d4] }
  | _ => none }
def StripePartsWrongFalsely : Prop := stripePartsRow.holds Try.pinned (OpenSpec.ofChange stripePartsWrong)

/-- 'strawloftkeep.StripeSizes': WHATEVER THE INPUT: true; the input reads as it did. -/
def stripeSizesSpec : ChangeSpec := { name := "stripeSizes", fn := fun _ => fun
  | [d1, d2] => { results := [.lit (.bool true)], args := [d1, d2] }
  | _ => none }
def stripeSizesRow : OpenClaim := { program := "ytlcbchpijijilaa", sum := "55b525a06f0215ffaa7d775e598b2c270ccd19a3a7e3a8a7db84bb754a41e843", func := "strawloft/strawloftkeep.StripeSizes", spec := "stripeSizes", apart := false }
def StripeSizesSaid : Prop := stripeSizesRow.holds Try.pinned (OpenSpec.ofChange stripeSizesSpec)

/-- ITS FALSE NEIGHBOUR: 'it returns false'. Refute it at one input. -/
def stripeSizesWrong : ChangeSpec := { name := "stripeSizes", fn := fun _ => fun
  | [d1, d2] => { results := [.lit (.bool false)], args := [d1, d2] }
  | _ => none }
def StripeSizesWrongFalsely : Prop := stripeSizesRow.holds Try.pinned (OpenSpec.ofChange stripeSizesWrong)

/- THE SECOND FORM. 'bulk': how many values and letters a reading holds, each counted each time it is reached (what is shared counts as often as it is met; a slice's spare places count too). A statement '..UptoSaid' is the law's where the arguments, and the package variables that the reading takes, are together of bulk at most 1048576: NARROWER than '..Said'. Prove '..Said' where nothing that the law and all that it calls make is longer than what came in: it says more and counts as full. Else prove '..UptoSaid'. A law counts once. -/
mutual
def uptoBulk {H : Type} : DataW H → Nat
  | .lit (.string bytes) => bytes.length + 1
  | .lit _ => 1
  | .nil => 1
  | .ptr d => uptoBulk d + 1
  | .slice elems spare => uptoBulkAll elems + uptoBulkAll spare + 1
  | .agg parts => uptoBulkAll parts + 1
  | .iface _ d => uptoBulk d + 1
  | .map entries => uptoBulkEntries entries + 1
  | .held _ => 1
def uptoBulkAll {H : Type} : List (DataW H) → Nat
  | [] => 0
  | d :: r => uptoBulk d + uptoBulkAll r
def uptoBulkEntries {H : Type} : List (Lit × DataW H) → Nat
  | [] => 0
  | x :: r => uptoBulkEntry x + uptoBulkEntries r
def uptoBulkEntry {H : Type} : Lit × DataW H → Nat
  | (.string bytes, d) => bytes.length + uptoBulk d + 1
  | (_, d) => uptoBulk d + 1
 end
def uptoSmall : (H : Type) → List (DataW H) → Bool := fun _ ds => decide (uptoBulkAll ds ≤ 1048576)
def OpenSpec.upto (s : _root_.Go.ChangeSpec) : _root_.Go.OpenSpec := { _root_.Go.OpenSpec.ofChange s with cond := some uptoSmall }

/-- 'strawloftlaw.StripeWhere', WHERE WHAT IT READS IS OF BULK AT MOST 1048576: true; the input reads as it did. -/
def stripeWhereUptoRow : OpenClaim := { program := "ytlcbchpijijilaa", sum := "55b525a06f0215ffaa7d775e598b2c270ccd19a3a7e3a8a7db84bb754a41e843", func := "strawloft/strawloftlaw.StripeWhere", spec := "stripeWhere", unfollowed := true, recurses := true, apart := false, narrowed := true }
def StripeWhereUptoSaid : Prop := stripeWhereUptoRow.holds Try.pinned (OpenSpec.upto stripeWhereSpec)

/-- 'strawloftlaw.StripeSplits', WHERE WHAT IT READS IS OF BULK AT MOST 1048576: true; the input reads as it did. -/
def stripeSplitsUptoRow : OpenClaim := { program := "ytlcbchpijijilaa", sum := "55b525a06f0215ffaa7d775e598b2c270ccd19a3a7e3a8a7db84bb754a41e843", func := "strawloft/strawloftlaw.StripeSplits", spec := "stripeSplits", unfollowed := true, recurses := true, apart := false, narrowed := true }
def StripeSplitsUptoSaid : Prop := stripeSplitsUptoRow.holds Try.pinned (OpenSpec.upto stripeSplitsSpec)

/-- 'strawloftkeep.StripeBack', WHERE WHAT IT READS IS OF BULK AT MOST 1048576: true; the input reads as it did. -/
def stripeBackUptoRow : OpenClaim := { program := "ytlcbchpijijilaa", sum := "55b525a06f0215ffaa7d775e598b2c270ccd19a3a7e3a8a7db84bb754a41e843", func := "strawloft/strawloftkeep.StripeBack", spec := "stripeBack", apart := false, narrowed := true }
def StripeBackUptoSaid : Prop := stripeBackUptoRow.holds Try.pinned (OpenSpec.upto stripeBackSpec)

/-- 'strawloftkeep.StripeAll', WHERE WHAT IT READS IS OF BULK AT MOST 1048576: true; the input reads as it did. -/
def stripeAllUptoRow : OpenClaim := { program := "ytlcbchpijijilaa", sum := "55b525a06f0215ffaa7d775e598b2c270ccd19a3a7e3a8a7db84bb754a41e843", func := "strawloft/strawloftkeep.StripeAll", spec := "stripeAll", apart := false, narrowed := true }
def StripeAllUptoSaid : Prop := stripeAllUptoRow.holds Try.pinned (OpenSpec.upto stripeAllSpec)

/-- 'strawloftkeep.StripeParts', WHERE WHAT IT READS IS OF BULK AT MOST 1048576: true; the input reads as it did. -/
def stripePartsUptoRow : OpenClaim := { program := "ytlcbchpijijilaa", sum := "55b525a06f0215ffaa7d775e598b2c270ccd19a3a7e3a8a7db84bb754a41e843", func := "strawloft/strawloftkeep.StripeParts", spec := "stripeParts", apart := false, narrowed := true }
def StripePartsUptoSaid : Prop := stripePartsUptoRow.holds Try.pinned (OpenSpec.upto stripePartsSpec)

/-- 'strawloftkeep.StripeSizes', WHERE WHAT IT READS IS OF BULK AT MOST 1048576: true; the input reads as it did. -/
def stripeSizesUptoRow : OpenClaim := { program := "ytlcbchpijijilaa", sum := "55b525a06f0215ffaa7d775e598b2c270ccd19a3a7e3a8a7db84bb754a41e843", func := "strawloft/strawloftkeep.StripeSizes", spec := "stripeSizes", apart := false, narrowed := true }
def StripeSizesUptoSaid : Prop := stripeSizesUptoRow.holds Try.pinned (OpenSpec.upto stripeSizesSpec)

end Rows
end Go.Proofs.Ytlcbchpijijilaa
