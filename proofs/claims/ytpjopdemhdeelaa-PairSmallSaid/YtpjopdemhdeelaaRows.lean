/-
  No cell of these rows narrows 'for every input' (looked for: loops, veiled, ifaces, maps, wideKeys, modest, calm, conditions, laid).
  DERIVED. THE GIVEN ROWS OF THIS SEAT. 6 by the template 'for every input the law returns true; each argument reads behind the call as it read before'; 0 by the template 'total and deterministic' (their statements: YtpjopdemhdeelaaTotals.lean).
  GIVEN WITH THE SEED: the statements are not yours to turn. If you find one false, say at which input.
  Laid BY PROGRAM, IN A SANDBOX (cutbox-rows.mjs): the forced cells as the released guide's own fill.sh prints them over the translation fdd56426a914033e… (all of the seat's roots in one cut). By AI agents, Wed Nov 11 2026. No macro, syntax, notation, axiom, sorry.
-/
import Derived.Test.YtpjopdemhdeelaaChecked
import GoSem.Claim
import GoSem.ClaimJoined
import GoSem.ClaimMapViews
import Derived.JoinedTies
import Derived.KernelRfl
namespace Go.Proofs.Ytpjopdemhdeelaa
/- THE CELL 'sum', in the pinned program and in every row, IS THE sha256 OF THE DUMP (.gsa) THAT YtpjopdemhdeelaaProg.lean LOADS. Nothing in Lean hashes anything: it is a label: what it is worth is what the hold of that sum in a sandbox is worth. -/
noncomputable def Try.pinned : Pinned := { name := "ytpjopdemhdeelaa", sum := "fdd56426a914033e77a6aec61e5929fb3437fa134229b1737a2d615c1e48fe5e", checked := Try.checked }
namespace Rows
def none {H : Type} : Left H := { results := [], args := [] }

/-- 'strawloftlaw.PairMakes': WHATEVER THE INPUT: true; the input reads as it did. -/
def pairMakesSpec : ChangeSpec := { name := "pairMakes", fn := fun _ => fun
  | [d1, d2, d3, d4, d5] => { results := [.lit (.bool true)], args := [d1, d2, d3, d4, d5] }
  | _ => none }
def pairMakesRow : OpenClaim := { program := "ytpjopdemhdeelaa", sum := "fdd56426a914033e77a6aec61e5929fb3437fa134229b1737a2d615c1e48fe5e", func := "strawloft/strawloftlaw.PairMakes", spec := "pairMakes", apart := false }
def PairMakesSaid : Prop := pairMakesRow.holds Try.pinned (OpenSpec.ofChange pairMakesSpec)

/-- ITS FALSE NEIGHBOUR: 'it returns false'. Refute it at one input. -/
def pairMakesWrong : ChangeSpec := { name := "pairMakes", fn := fun _ => fun
  | [d1, d2, d3, d4, d5] => { results := [.lit (.bool false)], args := [d1, d2, d3, d4, d5] }
  | _ => none }
def PairMakesWrongFalsely : Prop := pairMakesRow.holds Try.pinned (OpenSpec.ofChange pairMakesWrong)

/-- 'strawloftlaw.PairWho': WHATEVER THE INPUT: true; the input reads as it did. -/
def pairWhoSpec : ChangeSpec := { name := "pairWho", fn := fun _ => fun
  | [d1, d2, d3, d4] => { results := [.lit (.bool true)], args := [d1, d2, d3, d4] }
  | _ => none }
def pairWhoRow : OpenClaim := { program := "ytpjopdemhdeelaa", sum := "fdd56426a914033e77a6aec61e5929fb3437fa134229b1737a2d615c1e48fe5e", func := "strawloft/strawloftlaw.PairWho", spec := "pairWho", apart := false }
def PairWhoSaid : Prop := pairWhoRow.holds Try.pinned (OpenSpec.ofChange pairWhoSpec)

/-- ITS FALSE NEIGHBOUR: 'it returns false'. Refute it at one input. -/
def pairWhoWrong : ChangeSpec := { name := "pairWho", fn := fun _ => fun
  | [d1, d2, d3, d4] => { results := [.lit (.bool false)], args := [d1, d2, d3, d4] }
  | _ => none }
def PairWhoWrongFalsely : Prop := pairWhoRow.holds Try.pinned (OpenSpec.ofChange pairWhoWrong)

/-- 'strawloftkeep.PairTwo': WHATEVER THE INPUT: true; the input reads as it did. -/
def pairTwoSpec : ChangeSpec := { name := "pairTwo", fn := fun _ => fun
  | [d1, d2, d3, d4] => { results := [.lit (.bool true)], args := [d1, d2, d3, d4] }
  | _ => none }
def pairTwoRow : OpenClaim := { program := "ytpjopdemhdeelaa", sum := "fdd56426a914033e77a6aec61e5929fb3437fa134229b1737a2d615c1e48fe5e", func := "strawloft/strawloftkeep.PairTwo", spec := "pairTwo", inPlace := ["internal/bytealg.MakeNoZero"], apart := false }
def PairTwoSaid : Prop := pairTwoRow.holds Try.pinned (OpenSpec.ofChange pairTwoSpec)

/-- ITS FALSE NEIGHBOUR: 'it returns false'. Refute it at one input. -/
def pairTwoWrong : ChangeSpec := { name := "pairTwo", fn := fun _ => fun
  | [d1, d2, d3, d4] => { results := [.lit (.bool false)], args := [d1, d2, d3, d4] }
  | _ => none }
def PairTwoWrongFalsely : Prop := pairTwoRow.holds Try.pinned (OpenSpec.ofChange pairTwoWrong)

/-- 'strawloftkeep.PairFinds': WHATEVER THE INPUT: true; the input reads as it did. -/
def pairFindsSpec : ChangeSpec := { name := "pairFinds", fn := fun _ => fun
  | [d1, d2, d3, d4] => { results := [.lit (.bool true)], args := [d1, d2, d3, d4] }
  | _ => none }
def pairFindsRow : OpenClaim := { program := "ytpjopdemhdeelaa", sum := "fdd56426a914033e77a6aec61e5929fb3437fa134229b1737a2d615c1e48fe5e", func := "strawloft/strawloftkeep.PairFinds", spec := "pairFinds", apart := false }
def PairFindsSaid : Prop := pairFindsRow.holds Try.pinned (OpenSpec.ofChange pairFindsSpec)

/-- ITS FALSE NEIGHBOUR: 'it returns false'. Refute it at one input. -/
def pairFindsWrong : ChangeSpec := { name := "pairFinds", fn := fun _ => fun
  | [d1, d2, d3, d4] => { results := [.lit (.bool false)], args := [d1, d2, d3, d4] }
  | _ => none }
def PairFindsWrongFalsely : Prop := pairFindsRow.holds Try.pinned (OpenSpec.ofChange pairFindsWrong)

/-- 'strawloftkeep.PairSmall': WHATEVER THE INPUT: true; the input reads as it did. -/
def pairSmallSpec : ChangeSpec := { name := "pairSmall", fn := fun _ => fun
  | [d1, d2, d3, d4] => { results := [.lit (.bool true)], args := [d1, d2, d3, d4] }
  | _ => none }
def pairSmallRow : OpenClaim := { program := "ytpjopdemhdeelaa", sum := "fdd56426a914033e77a6aec61e5929fb3437fa134229b1737a2d615c1e48fe5e", func := "strawloft/strawloftkeep.PairSmall", spec := "pairSmall", apart := false }
def PairSmallSaid : Prop := pairSmallRow.holds Try.pinned (OpenSpec.ofChange pairSmallSpec)

/-- ITS FALSE NEIGHBOUR: 'it returns false'. Refute it at one input. -/
def pairSmallWrong : ChangeSpec := { name := "pairSmall", fn := fun _ => fun
  | [d1, d2, d3, d4] => { results := [.lit (.bool false)], args := [d1, d2, d3, d4] }
  | _ => none }
def PairSmallWrongFalsely : Prop := pairSmallRow.holds Try.pinned (OpenSpec.ofChange pairSmallWrong)

/-- 'strawloftkeep.PairEmpty': WHATEVER THE INPUT: true; the input reads as it did. -/
def pairEmptySpec : ChangeSpec := { name := "pairEmpty", fn := fun _ => fun
  | [d] => { results := [.lit (.bool true)], args := [d] }
  | _ => none }
def pairEmptyRow : OpenClaim := { program := "ytpjopdemhdeelaa", sum := "fdd56426a914033e77a6aec61e5929fb3437fa134229b1737a2d615c1e48fe5e", func := "strawloft/strawloftkeep.PairEmpty", spec := "pairEmpty", apart := false }
def PairEmptySaid : Prop := pairEmptyRow.holds Try.pinned (OpenSpec.ofChange pairEmptySpec)

/-- ITS FALSE NEIGHBOUR: 'it returns false'. Refute it at one input. -/
def pairEmptyWrong : ChangeSpec := { name := "pairEmpty", fn := fun _ => fun
  | [d] => { results := [.lit (.bool false)], args := [d] }
  | _ => none }
def PairEmptyWrongFalsely : Prop := pairEmptyRow.holds Try.pinned (OpenSpec.ofChange pairEmptyWrong)

/- THE SECOND FORM. 'bulk': how many values and letters a reading holds, each counted each time it is reached (what is shared counts as often as it is met; a slice's spare places count too). A statement '..UptoSaid' is the law's where the arguments, and the package variables that the reading takes, are together of bulk at most 1048576: NARROWER than '..Said'. Prove '..Said' where nothing that the law and all that it calls make is longer than what came in: it says more and counts as full. Else prove '..UptoSaid'. A law counts once. -/
mutual
def uptoBulk {H : Type} : DataW H → Nat
  | .lit (.string bytes) => bytes.length + 1
  | .lit _ => 1
  | .nil => 1
  | .ptr d => uptoBulk d + 1
  | .slice elems spare => uptoBulkAll elems + uptoBulkAll spare + 1
  | .agg parts => uptoBulkAll parts + 1
  | .iface _ d => uptoBulk d + 1
  | .map entries => uptoBulkEntries entries + 1
  | .held _ => 1
def uptoBulkAll {H : Type} : List (DataW H) → Nat
  | [] => 0
  | d :: r => uptoBulk d + uptoBulkAll r
def uptoBulkEntries {H : Type} : List (Lit × DataW H) → Nat
  | [] => 0
  | x :: r => uptoBulkEntry x + uptoBulkEntries r
def uptoBulkEntry {H : Type} : Lit × DataW H → Nat
  | (.string bytes, d) => bytes.length + uptoBulk d + 1
  | (_, d) => uptoBulk d + 1
 end
def uptoSmall : (H : Type) → List (DataW H) → Bool := fun _ ds => decide (uptoBulkAll ds ≤ 1048576)
def OpenSpec.upto (s : _root_.Go.ChangeSpec) : _root_.Go.OpenSpec := { _root_.Go.OpenSpec.ofChange s with cond := some uptoSmall }

/-- 'strawloftlaw.PairMakes', WHERE WHAT IT READS IS OF BULK AT MOST 1048576: true; the input reads as it did. -/
def pairMakesUptoRow : OpenClaim := { program := "ytpjopdemhdeelaa", sum := "fdd56426a914033e77a6aec61e5929fb3437fa134229b1737a2d615c1e48fe5e", func := "strawloft/strawloftlaw.PairMakes", spec := "pairMakes", apart := false, narrowed := true }
def PairMakesUptoSaid : Prop := pairMakesUptoRow.holds Try.pinned (OpenSpec.upto pairMakesSpec)

/-- 'strawloftlaw.PairWho', WHERE WHAT IT READS IS OF BULK AT MOST 1048576: true; the input reads as it did. -/
def pairWhoUptoRow : OpenClaim := { program := "ytpjopdemhdeelaa", sum := "fdd56426a914033e77a6aec61e5929fb3437fa134229b1737a2d615c1e48fe5e", func := "strawloft/strawloftlaw.PairWho", spec := "pairWho", apart := false, narrowed := true }
def PairWhoUptoSaid : Prop := pairWhoUptoRow.holds Try.pinned (OpenSpec.upto pairWhoSpec)

/-- 'strawloftkeep.PairTwo', WHERE WHAT IT READS IS OF BULK AT MOST 1048576: true; the input reads as it did. -/
def pairTwoUptoRow : OpenClaim := { program := "ytpjopdemhdeelaa", sum := "fdd56426a914033e77a6aec61e5929fb3437fa134229b1737a2d615c1e48fe5e", func := "strawloft/strawloftkeep.PairTwo", spec := "pairTwo", inPlace := ["internal/bytealg.MakeNoZero"], apart := false, narrowed := true }
def PairTwoUptoSaid : Prop := pairTwoUptoRow.holds Try.pinned (OpenSpec.upto pairTwoSpec)

/-- 'strawloftkeep.PairFinds', WHERE WHAT IT READS IS OF BULK AT MOST 1048576: true; the input reads as it did. -/
def pairFindsUptoRow : OpenClaim := { program := "ytpjopdemhdeelaa", sum := "fdd56426a914033e77a6aec61e5929fb3437fa134229b1737a2d615c1e48fe5e", func := "strawloft/strawloftkeep.PairFinds", spec := "pairFinds", apart := false, narrowed := true }
def PairFindsUptoSaid : Prop := pairFindsUptoRow.holds Try.pinned (OpenSpec.upto pairFindsSpec)

/-- 'strawloftkeep.PairSmall', WHERE WHAT IT READS IS OF BULK AT MOST 1048576: true; the input reads as it did. -/
def pairSmallUptoRow : OpenClaim := { program := "ytpjopdemhdeelaa", sum := "fdd56426a914033e77a6aec61e5929fb3437fa134229b1737a2d615c1e48fe5e", func := "strawloft/strawloftkeep.PairSmall", spec := "pairSmall", apart := false, narrowed := true }
def PairSmallUptoSaid : Prop := pairSmallUptoRow.holds Try.pinned (OpenSpec.upto pairSmallSpec)

/-- 'strawloftkeep.PairEmpty', WHERE WHAT IT READS IS OF BULK AT MOST 1048576: true; the input reads as it did. -/
def pairEmptyUptoRow : OpenClaim := { program := "ytpjopdemhdeelaa", sum := "fdd56426a914033e77a6aec61e5929fb3437fa134229b1737a2d615c1e48fe5e", func := "strawloft/strawloftkeep.PairEmpty", spec := "pairEmpty", apart := false, narrowed := true }
def PairEmptyUptoSaid : Prop := pairEmptyUptoRow.holds Try.pinned (OpenSpec.upto pairEmptySpec)

end Rows
end Go.Proofs.Ytpjopdemhdeelaa
