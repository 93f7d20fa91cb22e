/-
  What the laws about package pair take of its functions: each contract as a proposition (proved elsewhere, over the code as it landed).
-/
import Derived.Test.YtpjopdemhdeelaaPairRef
import Derived.Test.YtpjopdemhdeelaaBytesFns
import Derived.Test.YtpjopdemhdeelaaMine
import Derived.Test.YtpjopdemhdeelaaLaw
namespace Go.Proofs.Ytpjopdemhdeelaa.Pair
set_option linter.unusedVariables false
open Go.RowKit Gf Mem Poly Cdr

def Lies (n : Nat) (k : Int) : Prop := 0 ≤ k ∧ k < n
def WrongSpec : Prop := ∀ (A : Option Addr) (rows : List (List UInt8)) (ca : Nat) (W : World), Sane rows → rows.length ≤ ca → Rds W A rows →
  Calls Try.prog 13 #[.slice A rows.length ca] W fun e W' => e = .returned (.int .i64 (wrongE rows)) ∧ Below W.heap.size W W'
def MakeIs (rows : List (List UInt8)) (p q : List UInt8) (err : Int) : Prop := err = wrongE rows ∧ (err ≠ 0 → p = [] ∧ q = []) ∧ (err = 0 → p = par 1 rows ∧ q = par 2 rows)
/-- Two slices of bytes and an error; nothing old is written. -/
def TwoErr (P : List UInt8 → List UInt8 → Int → Prop) (W : World) (e : Ending) (W' : World) : Prop :=
  ∃ (A B : Option Addr) (ca cb : Nat) (p q : List UInt8) (err : Int), e = .returned (.tuple #[.slice A p.length ca, .slice B q.length cb, .int .i64 err]) ∧ p.length ≤ ca ∧ q.length ≤ cb ∧ Reads W' A (p.map byt) ∧ Reads W' B (q.map byt) ∧ Below W.heap.size W W' ∧ P p q err
def MakeSpec : Prop := ∀ (A : Option Addr) (rows : List (List UInt8)) (ca : Nat) (W : World), Sane rows → rows.length ≤ ca → Rds W A rows →
  Calls Try.prog 9 #[.slice A rows.length ca] W (TwoErr (MakeIs rows) W)
def OneErr (P : List UInt8 → Int → Prop) (W : World) (e : Ending) (W' : World) : Prop :=
  ∃ (A : Option Addr) (ca : Nat) (p : List UInt8) (err : Int), e = .returned (.tuple #[.slice A p.length ca, .int .i64 err]) ∧ p.length ≤ ca ∧ Reads W' A (p.map byt) ∧ Below W.heap.size W W' ∧ P p err
def OneIs (rows : List (List UInt8)) (lost : Int) (p o : List UInt8) (err : Int) : Prop :=
  (wrongE rows ≠ 0 ∧ err = wrongE rows ∧ o = []) ∨ (wrongE rows = 0 ∧ ¬ Lies rows.length lost ∧ err = 3 ∧ o = []) ∨ (wrongE rows = 0 ∧ Lies rows.length lost ∧ p.length ≠ wide rows ∧ err = 1 ∧ o = []) ∨
  (wrongE rows = 0 ∧ Lies rows.length lost ∧ p.length = wide rows ∧ err = 0 ∧ o.length = wide rows ∧ par 1 (rows.set lost.toNat o) = p)
def OneSpec : Prop := ∀ (A P : Option Addr) (rows : List (List UInt8)) (p : List UInt8) (ca cp : Nat) (lost : Int) (W : World), Sane rows → rows.length ≤ ca → p.length ≤ 140737488351232 → p.length ≤ cp → (Lit.int .i64 lost).wf = true → Rds W A rows → Reads W P (p.map byt) →
  Calls Try.prog 10 #[.slice A rows.length ca, .int .i64 lost, .slice P p.length cp] W (OneErr (OneIs rows lost p) W)
def TwoIs (rows : List (List UInt8)) (a b : Int) (p q u v : List UInt8) (err : Int) : Prop :=
  (wrongE rows ≠ 0 ∧ err = wrongE rows ∧ u = [] ∧ v = []) ∨ (wrongE rows = 0 ∧ ¬ (Lies rows.length a ∧ Lies rows.length b) ∧ err = 3 ∧ u = [] ∧ v = []) ∨ (wrongE rows = 0 ∧ Lies rows.length a ∧ Lies rows.length b ∧ a = b ∧ err = 6 ∧ u = [] ∧ v = []) ∨
  (wrongE rows = 0 ∧ Lies rows.length a ∧ Lies rows.length b ∧ a ≠ b ∧ ¬ (p.length = wide rows ∧ q.length = wide rows) ∧ err = 1 ∧ u = [] ∧ v = []) ∨
  (wrongE rows = 0 ∧ Lies rows.length a ∧ Lies rows.length b ∧ a ≠ b ∧ p.length = wide rows ∧ q.length = wide rows ∧ err = 0 ∧ u.length = wide rows ∧ v.length = wide rows ∧
    par 1 ((rows.set a.toNat u).set b.toNat v) = p ∧ par 2 ((rows.set a.toNat u).set b.toNat v) = q)
def TwoSpec : Prop := ∀ (A P Q : Option Addr) (rows : List (List UInt8)) (p q : List UInt8) (ca cp cq : Nat) (a b : Int) (W : World), Sane rows → rows.length ≤ ca → p.length ≤ 140737488351232 → p.length ≤ cp → q.length ≤ 140737488351232 → q.length ≤ cq →
  (Lit.int .i64 a).wf = true → (Lit.int .i64 b).wf = true → Rds W A rows → Reads W P (p.map byt) → Reads W Q (q.map byt) →
  Calls Try.prog 11 #[.slice A rows.length ca, .int .i64 a, .int .i64 b, .slice P p.length cp, .slice Q q.length cq] W (TwoErr (TwoIs rows a b p q) W)
def WhoIs (rows : List (List UInt8)) (p q : List UInt8) (at_ k err : Int) : Prop :=
  (wrongE rows ≠ 0 ∧ err = wrongE rows ∧ k = 0) ∨ (wrongE rows = 0 ∧ ¬ (p.length = wide rows ∧ q.length = wide rows) ∧ err = 1 ∧ k = 0) ∨ (wrongE rows = 0 ∧ p.length = wide rows ∧ q.length = wide rows ∧ ¬ Lies (wide rows) at_ ∧ err = 2 ∧ k = 0) ∨
  (wrongE rows = 0 ∧ p.length = wide rows ∧ q.length = wide rows ∧ Lies (wide rows) at_ ∧ Finds rows.length (xor8 (sumAt 1 rows at_.toNat) (co p at_.toNat)) (xor8 (sumAt 2 rows at_.toNat) (co q at_.toNat)) k err)
def WhoSpec : Prop := ∀ (A P Q : Option Addr) (rows : List (List UInt8)) (p q : List UInt8) (ca cp cq : Nat) (at_ : Int) (W : World), Sane rows → rows.length ≤ ca → p.length ≤ 140737488351232 → p.length ≤ cp → q.length ≤ 140737488351232 → q.length ≤ cq →
  (Lit.int .i64 at_).wf = true → Rds W A rows → Reads W P (p.map byt) → Reads W Q (q.map byt) →
  Calls Try.prog 17 #[.slice A rows.length ca, .slice P p.length cp, .slice Q q.length cq, .int .i64 at_] W fun e W' => ∃ k err : Int, e = .returned (.tuple #[.int .i64 k, .int .i64 err]) ∧ Below W.heap.size W W' ∧ WhoIs rows p q at_ k err

/-! ### What each makes of what -/
theorem make_ok {rows : List (List UInt8)} {p q : List UInt8} {err : Int} (h : MakeIs rows p q err) (h0 : wrongE rows = 0) : err = 0 ∧ p = par 1 rows ∧ q = par 2 rows := by
  have e : err = 0 := h.1.trans h0
  exact ⟨e, h.2.2 e⟩
theorem one_ok {rows : List (List UInt8)} {lost : Nat} {p o : List UInt8} {err : Int} (h : OneIs rows lost p o err) (h0 : wrongE rows = 0) (hl : lost < rows.length) (hp : p.length = wide rows) : err = 0 ∧ o.length = wide rows ∧ par 1 (rows.set lost o) = p := by
  have hL : Lies rows.length lost := ⟨by omega, by omega⟩
  rcases h with ⟨h, _⟩ | ⟨_, h, _⟩ | ⟨_, _, h, _⟩ | ⟨_, _, _, h1, h2, h3⟩
  · exact absurd h0 h
  · exact absurd hL h
  · exact absurd hp h
  · exact ⟨h1, h2, by simpa using h3⟩
theorem two_ok {rows : List (List UInt8)} {a b : Nat} {p q u v : List UInt8} {err : Int} (h : TwoIs rows a b p q u v err) (h0 : wrongE rows = 0) (ha : a < rows.length) (hb : b < rows.length) (hab : a ≠ b) (hp : p.length = wide rows) (hq : q.length = wide rows) :
    err = 0 ∧ u.length = wide rows ∧ v.length = wide rows ∧ par 1 ((rows.set a u).set b v) = p ∧ par 2 ((rows.set a u).set b v) = q := by
  have hA : Lies rows.length a := ⟨by omega, by omega⟩
  have hB : Lies rows.length b := ⟨by omega, by omega⟩
  rcases h with ⟨h, _⟩ | ⟨_, h, _⟩ | ⟨_, _, _, h, _⟩ | ⟨_, _, _, _, h, _⟩ | ⟨_, _, _, _, _, _, h1, h2, h3, h4, h5⟩
  · exact absurd h0 h
  · exact absurd ⟨hA, hB⟩ h
  · exact absurd (by omega) hab
  · exact absurd ⟨hp, hq⟩ h
  · exact ⟨h1, h2, h3, by simpa using h4, by simpa using h5⟩
end Go.Proofs.Ytpjopdemhdeelaa.Pair
