/-
  Package vector: vectors in memory; what the laws take of the program.
-/
import Derived.Test.YthebilmeehnkpaaVePure
import Derived.Test.YthebilmeehnkpaaGVecs
import Derived.Test.YthebilmeehnkpaaJpEqZ
import Derived.BigQuiet
namespace Go.Proofs.Ythebilmeehnkpaa.Ve
set_option linter.unusedVariables false
set_option linter.unusedSimpArgs false
open Go.RowKit Mem Gt
open Jump (Gave equalZ_c)

theorem int_at {W : World} {A : Option Addr} {l : List Int} (h : Reads W A (l.map (Value.int .i64))) {k : Nat} {x : Int} (hk : l[k]? = some x) :
    ∃ b o, A = some ⟨b, o, none⟩ ∧ b < W.heap.size ∧ W.cell? ⟨b, o + k, none⟩ = some (.int .i64 x) := h k _ (by rw [List.getElem?_map, hk]; rfl)
/-! ### What the laws take of the program -/
def WrongSpec : Prop := ∀ (A : Option Addr) (ls : List Ve) (n ca : Nat) (V : World) (e : Int), ls.length = n → n ≤ 140737488355328 → VRds V A ls → wrongE ls = e → Calls Try.prog 36 #[.slice A n ca] V (Gave (.int .i64 e) V)
/-- A vector and an error are given. -/
def VOut (l : Ve) (n : Nat) (e : Int) (W : World) (x : Ending) (W' : World) : Prop := ∃ A c, x = .returned (.tuple #[.slice A n c, .int .i64 e]) ∧ (n ≤ c ∧ c ≤ 9223372036854775807) ∧ Reads W' A (l.map (Value.int .i64)) ∧ Below W.heap.size W W'
def JoinSpec : Prop := ∀ (A B : Option Addr) (a b : Ve) (n m ca cb : Nat) (V : World) (l : Ve) (k : Nat) (e : Int), a.length = n → b.length = m → (n ≤ ca ∧ ca ≤ 9223372036854775807) → (m ≤ cb ∧ cb ≤ 9223372036854775807) → n ≤ 140737488355328 → m ≤ 140737488355328 → Reads V A (a.map (Value.int .i64)) → Reads V B (b.map (Value.int .i64)) →
  wrongE [a, b] = e → (if e = 0 then join a b else []) = l → l.length = k → Calls Try.prog 41 #[.slice A n ca, .slice B m cb] V (VOut l k e V)
def TickSpec : Prop := ∀ (A : Option Addr) (a : Ve) (n ca : Nat) (who : Int) (V : World) (l : Ve) (k : Nat) (e : Int), a.length = n → (n ≤ ca ∧ ca ≤ 9223372036854775807) → n ≤ 140737488355328 → Reads V A (a.map (Value.int .i64)) → (Lit.int .i64 who).wf = true →
  tickE a who = e → (if e = 0 then bump a who.toNat else []) = l → l.length = k → Calls Try.prog 29 #[.slice A n ca, .int .i64 who] V (VOut l k e V)
def LOut (l : List Ve) (n : Nat) (e : Int) (W : World) (x : Ending) (W' : World) : Prop := ∃ A c, x = .returned (.tuple #[.slice A n c, .int .i64 e]) ∧ (n ≤ c ∧ c ≤ 9223372036854775807) ∧ VRds W' A l ∧ Below W.heap.size W W'
end Go.Proofs.Ythebilmeehnkpaa.Ve
