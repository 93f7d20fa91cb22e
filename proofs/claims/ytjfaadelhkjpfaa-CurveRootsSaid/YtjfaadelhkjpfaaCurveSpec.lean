/-
  What the laws about package curve take of its functions: each contract as a proposition (proved elsewhere, over the code as it landed).
-/
import Derived.Test.YtjfaadelhkjpfaaThruRef
import Derived.Test.YtjfaadelhkjpfaaSl
namespace Go.Proofs.Ytjfaadelhkjpfaa.Poly
set_option linter.unusedVariables false
open Go.RowKit Gf Mem

/-- What a call returns that makes a slice of bytes; nothing old is written. -/
def Brings (l : List UInt8) (W : World) (e : Ending) (W' : World) : Prop :=
  ∃ (A : Option Addr) (cap : Nat), e = .returned (.slice A l.length cap) ∧ Reads W' A (l.map byt) ∧ Below W.heap.size W W'
theorem Gives.brings {l : List UInt8} {W : World} {e : Ending} {W' : World} (h : Gives l W e W') : Brings l W e W' := by
  obtain ⟨A, cap, h1, _, h2, h3, _⟩ := h; exact ⟨A, cap, h1, h2, h3⟩
def DrawnByte (v : UInt8) (W : World) (e : Ending) (W' : World) : Prop := e = .returned (.int .u8 (v.toNat : Int)) ∧ Drawn W W'
def AtSpec : Prop := ∀ (A : Option Addr) (p : List UInt8) (cap : Nat) (x : UInt8) (W : World), p.length ≤ 281474976710656 → Reads W A (p.map byt) →
  Calls Try.prog 9 #[.slice A p.length cap, .int .u8 x.toNat] W (DrawnByte (ev p x) W)
def SumSpec : Prop := ∀ (A B : Option Addr) (p q : List UInt8) (ca cb : Nat) (W : World), p.length ≤ 140737488351232 → q.length ≤ 140737488351232 → Reads W A (p.map byt) → Reads W B (q.map byt) →
  Calls Try.prog 12 #[.slice A p.length ca, .slice B q.length cb] W (Brings (trim (padd p q)) W)
def TimesSpec : Prop := ∀ (A B : Option Addr) (p q : List UInt8) (ca cb : Nat) (W : World), p.length ≤ 140737488351232 → q.length ≤ 140737488351232 → p.length ≤ ca → q.length ≤ cb → Reads W A (p.map byt) → Reads W B (q.map byt) →
  Calls Try.prog 14 #[.slice A p.length ca, .slice B q.length cb] W (Brings (trim (pmul p q)) W)
/-- What Through returns: an error and no terms, or the polynomial through the points. -/
def ThruEnds (xs ys : List UInt8) (W : World) (e : Ending) (W' : World) : Prop :=
  ∃ (A : Option Addr) (cap : Nat) (r : List UInt8) (err : Int), e = .returned (.tuple #[.slice A r.length cap, .int .i64 err]) ∧ Reads W' A (r.map byt) ∧ Below W.heap.size W W' ∧
    ((xs.length ≠ ys.length ∧ err = 1 ∧ r = []) ∨ (xs.length = ys.length ∧ ¬ xs.Nodup ∧ err = 6 ∧ r = []) ∨ (xs.length = ys.length ∧ xs.Nodup ∧ err = 0 ∧ Thru xs ys r))
def ThruSpec : Prop := ∀ (A B : Option Addr) (xs ys : List UInt8) (ca cb : Nat) (W : World), xs.length ≤ 140737488355328 → ys.length ≤ 140737488355328 → Reads W A (xs.map byt) → Reads W B (ys.map byt) →
  Calls Try.prog 16 #[.slice A xs.length ca, .slice B ys.length cb] W (ThruEnds xs ys W)
end Go.Proofs.Ytjfaadelhkjpfaa.Poly
