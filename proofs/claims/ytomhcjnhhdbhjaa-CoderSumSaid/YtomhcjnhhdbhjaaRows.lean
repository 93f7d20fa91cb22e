/-
  No cell of these rows narrows 'for every input' (looked for: loops, veiled, ifaces, maps, wideKeys, modest, calm, conditions, laid).
  DERIVED. THE GIVEN ROWS OF THIS SEAT. 6 by the template 'for every input the law returns true; each argument reads behind the call as it read before'; 0 by the template 'total and deterministic' (their statements: YtomhcjnhhdbhjaaTotals.lean).
  GIVEN WITH THE SEED: the statements are not yours to turn. If you find one false, say at which input.
  Laid BY PROGRAM, IN A SANDBOX (cutbox-rows.mjs): the forced cells as the released guide's own fill.sh prints them over the translation 92b16a884c52030e… (all of the seat's roots in one cut). By AI agents, Wed Nov 11 2026. No macro, syntax, notation, axiom, sorry.
-/
import Derived.Test.YtomhcjnhhdbhjaaChecked
import GoSem.Claim
import GoSem.ClaimJoined
import GoSem.ClaimMapViews
import Derived.JoinedTies
import Derived.KernelRfl
namespace Go.Proofs.Ytomhcjnhhdbhjaa
/- THE CELL 'sum', in the pinned program and in every row, IS THE sha256 OF THE DUMP (.gsa) THAT YtomhcjnhhdbhjaaProg.lean LOADS. Nothing in Lean hashes anything: it is a label: what it is worth is what the hold of that sum in a sandbox is worth. -/
noncomputable def Try.pinned : Pinned := { name := "ytomhcjnhhdbhjaa", sum := "92b16a884c52030ebe0e814dd737199e25a76dcfa9623224ea1363bf339b3360", checked := Try.checked }
namespace Rows
def none {H : Type} : Left H := { results := [], args := [] }

/-- 'strawloftlaw.CoderAdds': WHATEVER THE INPUT: true; the input reads as it did. -/
def coderAddsSpec : ChangeSpec := { name := "coderAdds", fn := fun _ => fun
  | [d1, d2, d3] => { results := [.lit (.bool true)], args := [d1, d2, d3] }
  | _ => none }
def coderAddsRow : OpenClaim := { program := "ytomhcjnhhdbhjaa", sum := "92b16a884c52030ebe0e814dd737199e25a76dcfa9623224ea1363bf339b3360", func := "strawloft/strawloftlaw.CoderAdds", spec := "coderAdds", apart := false }
def CoderAddsSaid : Prop := coderAddsRow.holds Try.pinned (OpenSpec.ofChange coderAddsSpec)

/-- ITS FALSE NEIGHBOUR: 'it returns false'. Refute it at one input. -/
def coderAddsWrong : ChangeSpec := { name := "coderAdds", fn := fun _ => fun
  | [d1, d2, d3] => { results := [.lit (.bool false)], args := [d1, d2, d3] }
  | _ => none }
def CoderAddsWrongFalsely : Prop := coderAddsRow.holds Try.pinned (OpenSpec.ofChange coderAddsWrong)

/-- 'strawloftlaw.CoderBacks': WHATEVER THE INPUT: true; the input reads as it did. -/
def coderBacksSpec : ChangeSpec := { name := "coderBacks", fn := fun _ => fun
  | [d1, d2, d3] => { results := [.lit (.bool true)], args := [d1, d2, d3] }
  | _ => none }
def coderBacksRow : OpenClaim := { program := "ytomhcjnhhdbhjaa", sum := "92b16a884c52030ebe0e814dd737199e25a76dcfa9623224ea1363bf339b3360", func := "strawloft/strawloftlaw.CoderBacks", spec := "coderBacks", apart := false }
def CoderBacksSaid : Prop := coderBacksRow.holds Try.pinned (OpenSpec.ofChange coderBacksSpec)

/-- ITS FALSE NEIGHBOUR: 'it returns false'. Refute it at one input. -/
def coderBacksWrong : ChangeSpec := { name := "coderBacks", fn := fun _ => fun
  | [d1, d2, d3] => { results := [.lit (.bool false)], args := [d1, d2, d3] }
  | _ => none }
def CoderBacksWrongFalsely : Prop := coderBacksRow.holds Try.pinned (OpenSpec.ofChange coderBacksWrong)

/-- 'strawloftkeep.CoderAny': WHATEVER THE INPUT: true; the input reads as it did. -/
def coderAnySpec : ChangeSpec := { name := "coderAny", fn := fun _ => fun
  | [d1, d2, d3] => { results := [.lit (.bool true)], args := [d1, d2, d3] }
  | _ => none }
def coderAnyRow : OpenClaim := { program := "ytomhcjnhhdbhjaa", sum := "92b16a884c52030ebe0e814dd737199e25a76dcfa9623224ea1363bf339b3360", func := "strawloft/strawloftkeep.CoderAny", spec := "coderAny", apart := false }
def CoderAnySaid : Prop := coderAnyRow.holds Try.pinned (OpenSpec.ofChange coderAnySpec)

/-- ITS FALSE NEIGHBOUR: 'it returns false'. Refute it at one input. -/
def coderAnyWrong : ChangeSpec := { name := "coderAny", fn := fun _ => fun
  | [d1, d2, d3] => { results := [.lit (.bool false)], args := [d1, d2, d3] }
  | _ => none }
def CoderAnyWrongFalsely : Prop := coderAnyRow.holds Try.pinned (OpenSpec.ofChange coderAnyWrong)

/-- 'strawloftkeep.CoderWrong': WHATEVER THE INPUT: true; the input reads as it did. -/
def coderWrongSpec : ChangeSpec := { name := "coderWrong", fn := fun _ => fun
  | [d1, d2, d3, d4, d5] => { results := [.lit (.bool true)], args := [d1, d2, d3, d4, d5] }
  | _ => none }
def coderWrongRow : OpenClaim := { program := "ytomhcjnhhdbhjaa", sum := "92b16a884c52030ebe0e814dd737199e25a76dcfa9623224ea1363bf339b3360", func := "strawloft/strawloftkeep.CoderWrong", spec := "coderWrong", apart := false }
def CoderWrongSaid : Prop := coderWrongRow.holds Try.pinned (OpenSpec.ofChange coderWrongSpec)

/-- ITS FALSE NEIGHBOUR: 'it returns false'. Refute it at one input. -/
def coderWrongWrong : ChangeSpec := { name := "coderWrong", fn := fun _ => fun
  | [d1, d2, d3, d4, d5] => { results := [.lit (.bool false)], args := [d1, d2, d3, d4, d5] }
  | _ => none }
def CoderWrongWrongFalsely : Prop := coderWrongRow.holds Try.pinned (OpenSpec.ofChange coderWrongWrong)

/-- 'strawloftkeep.CoderSum': WHATEVER THE INPUT: true; the input reads as it did. -/
def coderSumSpec : ChangeSpec := { name := "coderSum", fn := fun _ => fun
  | [d1, d2, d3] => { results := [.lit (.bool true)], args := [d1, d2, d3] }
  | _ => none }
def coderSumRow : OpenClaim := { program := "ytomhcjnhhdbhjaa", sum := "92b16a884c52030ebe0e814dd737199e25a76dcfa9623224ea1363bf339b3360", func := "strawloft/strawloftkeep.CoderSum", spec := "coderSum", unfollowed := true, recurses := true, apart := false }
def CoderSumSaid : Prop := coderSumRow.holds Try.pinned (OpenSpec.ofChange coderSumSpec)

/-- ITS FALSE NEIGHBOUR: 'it returns false'. Refute it at one input. -/
def coderSumWrong : ChangeSpec := { name := "coderSum", fn := fun _ => fun
  | [d1, d2, d3] => { results := [.lit (.bool false)], args := [d1, d2, d3] }
  | _ => none }
def CoderSumWrongFalsely : Prop := coderSumRow.holds Try.pinned (OpenSpec.ofChange coderSumWrong)

/-- 'strawloftkeep.CoderAlike': WHATEVER THE INPUT: true; the input reads as it did. -/
def coderAlikeSpec : ChangeSpec := { name := "coderAlike", fn := fun _ => fun
  | [d1, d2, d3, d4] => { results := [.lit (.bool true)], args := [d1, d2, d3, d4] }
  | _ => none }
def coderAlikeRow : OpenClaim := { program := "ytomhcjnhhdbhjaa", sum := "92b16a884c52030ebe0e814dd737199e25a76dcfa9623224ea1363bf339b3360", func := "strawloft/strawloftkeep.CoderAlike", spec := "coderAlike", apart := false }
def CoderAlikeSaid : Prop := coderAlikeRow.holds Try.pinned (OpenSpec.ofChange coderAlikeSpec)

/-- ITS FALSE NEIGHBOUR: 'it returns false'. Refute it at one input. -/
def coderAlikeWrong : ChangeSpec := { name := "coderAlike", fn := fun _ => fun
  | [d1, d2, d3, d4] => { results := [.lit (.bool false)], args := [d1, d2, d3, d4] }
  | _ => none }
def CoderAlikeWrongFalsely : Prop := coderAlikeRow.holds Try.pinned (OpenSpec.ofChange coderAlikeWrong)

/- THE SECOND FORM. 'bulk': how many values and letters a reading holds, each counted each time it is reached (what is shared counts as often as it is met; a slice's spare places count too). A statement '..UptoSaid' is the law's where the arguments, and the package variables that the reading takes, are together of bulk at most 1048576: NARROWER than '..Said'. Prove '..Said' where nothing that the law and all that it calls make is longer than what came in: it says more and counts as full. Else prove '..UptoSaid'. A law counts once. -/
mutual
def uptoBulk {H : Type} : DataW H → Nat
  | .lit (.string bytes) => bytes.length + 1
  | .lit _ => 1
  | .nil => 1
  | .ptr d => uptoBulk d + 1
  | .slice elems spare => uptoBulkAll elems + uptoBulkAll spare + 1
  | .agg parts => uptoBulkAll parts + 1
  | .iface _ d => uptoBulk d + 1
  | .map entries => uptoBulkEntries entries + 1
  | .held _ => 1
def uptoBulkAll {H : Type} : List (DataW H) → Nat
  | [] => 0
  | d :: r => uptoBulk d + uptoBulkAll r
def uptoBulkEntries {H : Type} : List (Lit × DataW H) → Nat
  | [] => 0
  | x :: r => uptoBulkEntry x + uptoBulkEntries r
def uptoBulkEntry {H : Type} : Lit × DataW H → Nat
  | (.string bytes, d) => bytes.length + uptoBulk d + 1
  | (_, d) => uptoBulk d + 1
 end
def uptoSmall : (H : Type) → List (DataW H) → Bool := fun _ ds => decide (uptoBulkAll ds ≤ 1048576)
def OpenSpec.upto (s : _root_.Go.ChangeSpec) : _root_.Go.OpenSpec := { _root_.Go.OpenSpec.ofChange s with cond := some uptoSmall }

/-- 'strawloftlaw.CoderAdds', WHERE WHAT IT READS IS OF BULK AT MOST 1048576: true; the input reads as it did. -/
def coderAddsUptoRow : OpenClaim := { program := "ytomhcjnhhdbhjaa", sum := "92b16a884c52030ebe0e814dd737199e25a76dcfa9623224ea1363bf339b3360", func := "strawloft/strawloftlaw.CoderAdds", spec := "coderAdds", apart := false, narrowed := true }
def CoderAddsUptoSaid : Prop := coderAddsUptoRow.holds Try.pinned (OpenSpec.upto coderAddsSpec)

/-- 'strawloftlaw.CoderBacks', WHERE WHAT IT READS IS OF BULK AT MOST 1048576: true; the input reads as it did. -/
def coderBacksUptoRow : OpenClaim := { program := "ytomhcjnhhdbhjaa", sum := "92b16a884c52030ebe0e814dd737199e25a76dcfa9623224ea1363bf339b3360", func := "strawloft/strawloftlaw.CoderBacks", spec := "coderBacks", apart := false, narrowed := true }
def CoderBacksUptoSaid : Prop := coderBacksUptoRow.holds Try.pinned (OpenSpec.upto coderBacksSpec)

/-- 'strawloftkeep.CoderAny', WHERE WHAT IT READS IS OF BULK AT MOST 1048576: true; the input reads as it did. -/
def coderAnyUptoRow : OpenClaim := { program := "ytomhcjnhhdbhjaa", sum := "92b16a884c52030ebe0e814dd737199e25a76dcfa9623224ea1363bf339b3360", func := "strawloft/strawloftkeep.CoderAny", spec := "coderAny", apart := false, narrowed := true }
def CoderAnyUptoSaid : Prop := coderAnyUptoRow.holds Try.pinned (OpenSpec.upto coderAnySpec)

/-- 'strawloftkeep.CoderWrong', WHERE WHAT IT READS IS OF BULK AT MOST 1048576: true; the input reads as it did. -/
def coderWrongUptoRow : OpenClaim := { program := "ytomhcjnhhdbhjaa", sum := "92b16a884c52030ebe0e814dd737199e25a76dcfa9623224ea1363bf339b3360", func := "strawloft/strawloftkeep.CoderWrong", spec := "coderWrong", apart := false, narrowed := true }
def CoderWrongUptoSaid : Prop := coderWrongUptoRow.holds Try.pinned (OpenSpec.upto coderWrongSpec)

/-- 'strawloftkeep.CoderSum', WHERE WHAT IT READS IS OF BULK AT MOST 1048576: true; the input reads as it did. -/
def coderSumUptoRow : OpenClaim := { program := "ytomhcjnhhdbhjaa", sum := "92b16a884c52030ebe0e814dd737199e25a76dcfa9623224ea1363bf339b3360", func := "strawloft/strawloftkeep.CoderSum", spec := "coderSum", unfollowed := true, recurses := true, apart := false, narrowed := true }
def CoderSumUptoSaid : Prop := coderSumUptoRow.holds Try.pinned (OpenSpec.upto coderSumSpec)

/-- 'strawloftkeep.CoderAlike', WHERE WHAT IT READS IS OF BULK AT MOST 1048576: true; the input reads as it did. -/
def coderAlikeUptoRow : OpenClaim := { program := "ytomhcjnhhdbhjaa", sum := "92b16a884c52030ebe0e814dd737199e25a76dcfa9623224ea1363bf339b3360", func := "strawloft/strawloftkeep.CoderAlike", spec := "coderAlike", apart := false, narrowed := true }
def CoderAlikeUptoSaid : Prop := coderAlikeUptoRow.holds Try.pinned (OpenSpec.upto coderAlikeSpec)

end Rows
end Go.Proofs.Ytomhcjnhhdbhjaa
