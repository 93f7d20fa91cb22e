/-
  Package synod: one operation that came in.
-/
import Derived.Test.YtpoielmbdofjlaaSyMem
import Derived.Test.YtpoielmbdofjlaaRows
import Derived.Lib.SmallJoins
import Derived.Deep.Fields
import Derived.ChangeSlices
import Derived.SizedLaws
import Derived.ProofKit
namespace Go.Proofs.Ytpoielmbdofjlaa.Syn
set_option linter.unusedVariables false
open Go.Joins Go.ChangeShapes Go.WideShapes Go.RowKit Go.Deep
section
variable {H : Type} {enc : TypeId × Value → H}
theorem open_vo {W : World} {base : Nat} {v : Value} {d : DataW H} {p : List MemPlace} (hval : Value.okWide Try.prog W .any base 37 v) (h : DataW.Trod enc Try.prog W 0 (fun _ => true) true 37 v d p) :
    ∃ (a b : Int) (c : Nat) (e : Int), v = .agg #[.int .i64 a, .int .i64 b, .int .u16 (c : Nat), .int .i64 e] ∧ FitO (a, b, c, e) := by
  obtain ⟨v0, v1, v2, v3, y0, y1, y2, y3, n, rfl, _, _, h0, h1, h2, h3⟩ := open_agg4 Try.underlying37 (by kernel_rfl) (by kernel_rfl) hval h
  obtain ⟨z0, e0, _, w0⟩ := DataW.trod_int Try.underlying3 h0
  obtain ⟨z1, e1, _, w1⟩ := DataW.trod_int Try.underlying3 h1
  obtain ⟨z2, e2, _, w2⟩ := DataW.trod_int Try.underlying29 h2
  obtain ⟨z3, e3, _, w3⟩ := DataW.trod_int Try.underlying3 h3
  simp at e0 e1 e2 e3
  subst e0 e1 e2 e3
  obtain ⟨g0, g1⟩ := fits16 w2
  obtain ⟨c, rfl⟩ : ∃ c : Nat, z2 = (c : Int) := ⟨z2.toNat, by omega⟩
  exact ⟨z0, z1, c, z3, rfl, fit_of w0, fit_of w1, by show c < 65536; omega, fit_of w3⟩
end
end Go.Proofs.Ytpoielmbdofjlaa.Syn
