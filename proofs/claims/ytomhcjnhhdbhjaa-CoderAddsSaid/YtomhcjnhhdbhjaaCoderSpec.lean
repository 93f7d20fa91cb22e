/-
  What the laws about package coder take of its functions: each contract as a proposition (proved elsewhere, over the code as it landed).
-/
import Derived.Test.YtomhcjnhhdbhjaaBackRef
import Derived.Test.YtomhcjnhhdbhjaaLaw
namespace Go.Proofs.Ytomhcjnhhdbhjaa.Cdr
set_option linter.unusedVariables false
open Go.RowKit Gf Mem Poly

/-- Rows and an error, in new memory or old; nothing old is written. -/
def RowsOut (P : List (List UInt8) → Int → Prop) (W : World) (e : Ending) (W' : World) : Prop :=
  ∃ (A : Option Addr) (cap : Nat) (outs : List (List UInt8)) (err : Int), e = .returned (.tuple #[.slice A outs.length cap, .int .i64 err]) ∧ outs.length ≤ cap ∧ Rds W' A outs ∧ Below W.heap.size W W' ∧ P outs err
def wrongIs (n m : Int) : Int := if n < 1 ∨ 100 < n ∨ m < 0 ∨ 100 < m then 2 else 0
def WrongSpec : Prop := ∀ (n m : Int) (W : World), (Lit.int .i64 n).wf = true → (Lit.int .i64 m).wf = true →
  Calls Try.prog 11 #[.int .i64 n, .int .i64 m] W fun e W' => e = .returned (.int .i64 (wrongIs n m)) ∧ W = W'
def MoreSpec : Prop := ∀ (A : Option Addr) (rows : List (List UInt8)) (ca : Nat) (more : Int) (W : World), Sane rows → (Lit.int .i64 more).wf = true → Rds W A rows →
  Calls Try.prog 9 #[.slice A rows.length ca, .int .i64 more] W (RowsOut (MoreIs rows more) W)
def SanePs (ps : List Pc) : Prop := ps.length ≤ 4398046511104 ∧ ∀ p ∈ ps, (Lit.int .i64 p.1).wf = true ∧ p.2.length ≤ 140737488351232
def BackSpec : Prop := ∀ (A : Option Addr) (r m : Int) (ps : List Pc) (ca : Nat) (W : World), SanePs ps → ps.length ≤ ca → (Lit.int .i64 r).wf = true → (Lit.int .i64 m).wf = true → Pcs W A ps →
  Calls Try.prog 13 #[.int .i64 r, .int .i64 m, .slice A ps.length ca] W (RowsOut (BackIs r m ps) W)
/-- Every piece equals the row with its number. -/
def allRight (rows : List (List UInt8)) (ps : List Pc) : Bool := ps.all fun p => decide (rows[p.1.toNat]? = some p.2)
def RightIs (r m : Int) (ps : List Pc) (b : Bool) (err : Int) : Prop :=
  ∃ outs, BackIs r m ps outs err ∧ (err ≠ 0 → b = false) ∧ (err = 0 → ∀ adds, Adds outs m.toNat adds → b = allRight (outs ++ adds) ps)
def BoolErr (P : Bool → Int → Prop) (W : World) (e : Ending) (W' : World) : Prop := ∃ (b : Bool) (err : Int), e = .returned (.tuple #[.bool b, .int .i64 err]) ∧ Below W.heap.size W W' ∧ P b err
def RightSpec : Prop := ∀ (A : Option Addr) (r m : Int) (ps : List Pc) (ca : Nat) (W : World), SanePs ps → ps.length ≤ ca → (Lit.int .i64 r).wf = true → (Lit.int .i64 m).wf = true → Pcs W A ps →
  Calls Try.prog 15 #[.int .i64 r, .int .i64 m, .slice A ps.length ca] W (BoolErr (RightIs r m ps) W)
end Go.Proofs.Ytomhcjnhhdbhjaa.Cdr
