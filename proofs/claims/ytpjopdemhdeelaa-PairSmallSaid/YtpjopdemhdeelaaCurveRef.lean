/-
  The reference's CAt and CTrim.
-/
import Derived.Test.YtpjopdemhdeelaaRow
import Derived.Test.YtpjopdemhdeelaaPoly
import Derived.Test.YtpjopdemhdeelaaGfRef
namespace Go.Proofs.Ytpjopdemhdeelaa.Poly
set_option linter.unusedVariables false
open Go.RowKit Gf Mem

def xor8 (a b : UInt8) : UInt8 := a ^^^ b
theorem xor8_nat (a b : UInt8) : bits .xor .u8 (a.toNat : Int) (b.toNat : Int) = ((xor8 a b).toNat : Int) := by
  unfold xor8; rw [u8_xor_nat _ _ a.toNat_lt b.toNat_lt, UInt8.toNat_xor]
attribute [local go_sem] xor8_nat
theorem take_next {α : Type} {l : List α} {k : Nat} {x : α} (h : l[k]? = some x) : l.take (k + 1) = l.take k ++ [x] := by
  rw [List.take_add_one, h]; rfl
theorem take_len {α : Type} {l : List α} {k : Nat} (h : k ≤ l.length) : (l.take k).length = k := by rw [List.length_take]; omega
theorem ev_next {p : List UInt8} {k : Nat} {c : UInt8} (x : UInt8) (h : p[k]? = some c) : ev (p.take (k + 1)) x = xor8 (ev (p.take k) x) (mul c (pow x k)) := by
  rw [take_next h, ev_snoc, take_len (Nat.le_of_lt (List.getElem?_eq_some_iff.1 h).1)]; rfl
theorem ev_take_all (p : List UInt8) (x : UInt8) : ev (p.take p.length) x = ev p x := by rw [List.take_of_length_le (Nat.le_refl _)]

theorem ev_drop {p : List UInt8} {k : Nat} {c : UInt8} (x : UInt8) (h : p[k]? = some c) : ev (p.drop k) x = xor8 (mul (ev (p.drop (k + 1)) x) x) c := by
  obtain ⟨hk, e⟩ := List.getElem?_eq_some_iff.1 h
  rw [List.drop_eq_getElem_cons hk, e, ev]
  unfold xor8
  rw [UInt8.xor_comm, mul_comm x]
theorem ev_dropped {p : List UInt8} {n : Nat} (h : p.length ≤ n) (x : UInt8) : ev (p.drop n) x = 0 := by rw [List.drop_of_length_le h]; rfl
/-- A byte returned, in a world that only drew. -/
def ByteIs (v : UInt8) (W : World) (e : Ending) (W' : World) : Prop := e = .returned (.int .u8 (v.toNat : Int)) ∧ W = W'


/-- n: one more than the last place below k that is not nought. -/
def Last (p : List UInt8) (n k : Nat) : Prop := n ≤ k ∧ (∀ j, n ≤ j → j < k → co p j = 0) ∧ (0 < n → co p (n - 1) ≠ 0)
theorem last_zero (p : List UInt8) : Last p 0 0 := ⟨Nat.le_refl _, fun j _ h => absurd h (by omega), fun h => absurd h (by omega)⟩
theorem last_same {p : List UInt8} {n k : Nat} {c : UInt8} (h : Last p n k) (hc : p[k]? = some c) (h0 : c = 0) : Last p n (k + 1) :=
  ⟨by have := h.1; omega, fun j h1 h2 => by
    by_cases e : j = k
    · subst e; rw [co_of_some hc, h0]
    · exact h.2.1 j h1 (by omega), h.2.2⟩
theorem last_new {p : List UInt8} {n k : Nat} {c : UInt8} (hc : p[k]? = some c) (h0 : ¬ c = 0) : Last p (k + 1) (k + 1) :=
  ⟨Nat.le_refl _, fun j h1 h2 => by omega, fun _ => by rw [Nat.add_sub_cancel, co_of_some hc]; exact h0⟩
theorem last_trim {p : List UInt8} {n : Nat} (h : Last p n p.length) : p.take n = trim p :=
  take_trim h.1 (fun k hk => by
    rcases Nat.lt_or_ge k p.length with h1 | h1
    · exact h.2.1 k hk h1
    · exact co_of_le h1) h.2.2
theorem last_len {p : List UInt8} {n : Nat} (h : Last p n p.length) : n = (trim p).length := by
  rw [← last_trim h, take_len h.1]

/-- What CTrim returns: the same cells, fewer of them. -/
def Trims (A : Option Addr) (p : List UInt8) (cap : Nat) (W : World) (e : Ending) (W' : World) : Prop :=
  e = .returned (.slice A (trim p).length cap) ∧ W = W'
end Go.Proofs.Ytpjopdemhdeelaa.Poly
