/-
  The reference's functions and bytes.Equal at lengths that are named; numbers that are integers.
-/
import Derived.Test.YtpjopdemhdeelaaPrE
namespace Go.Proofs.Ytpjopdemhdeelaa.Pair
set_option linter.unusedVariables false
open Go.RowKit Gf Mem Poly Cdr

def RowsN (rows : List (List UInt8)) (l : Nat) (W : World) (e : Ending) (W' : World) : Prop := ∃ (A : Option Addr) (c : Nat), e = .returned (.slice A l c) ∧ l ≤ c ∧ Rds W' A rows ∧ Below W.heap.size W W'
def BothN (p q : List UInt8) (n : Nat) (W : World) (e : Ending) (W' : World) : Prop :=
  ∃ (A B : Option Addr) (ca cb : Nat), e = .returned (.tuple #[.slice A n ca, .slice B n cb]) ∧ n ≤ ca ∧ n ≤ cb ∧ Reads W' A (p.map byt) ∧ Reads W' B (q.map byt) ∧ Below W.heap.size W W'
theorem ePut_n (A R : Option Addr) (rows : List (List UInt8)) (r : List UInt8) (ca cr l n : Nat) (k : Int) (hll : rows.length = l) (hn : r.length = n) (hk : Lies l k) (hl : l ≤ 255) (hc : n ≤ cr) (hm : n ≤ 9223372036854775807) (W : World) (hR : Rds W A rows) (hr : Reads W R (r.map byt)) :
    Calls Try.prog 16 #[.slice A l ca, .int .i64 k, .slice R n cr] W (RowsN (rows.set k.toNat r) l W) := by
  subst hll hn
  obtain ⟨x, rfl⟩ : ∃ x : Nat, k = x := ⟨k.toNat, by have := hk.1; omega⟩
  refine (ePut_c A R rows r ca cr x (by have := hk.2; omega) hl hc hm W hR hr).mono ?_
  rintro e w' ⟨A', c, rfl, h1, h2, h3⟩
  rw [List.length_set] at h1 ⊢
  exact ⟨A', c, rfl, h1, by rw [Int.toNat_natCast]; exact h2, h3⟩
theorem eMake_n (A : Option Addr) (rows : List (List UInt8)) (ca l n : Nat) (hll : rows.length = l) (hn : wide rows = n) (hw : wrongE rows = 0) (hL : n ≤ 140737488351232) (W : World) (hR : Rds W A rows) :
    Calls Try.prog 14 #[.slice A l ca] W (BothN (par 1 rows) (par 2 rows) n W) := by
  subst hll hn
  refine (eMake_c A rows ca hw hL W hR).mono ?_
  rintro e w' ⟨A', B', ca', cb', rfl, h1, h2, h3⟩
  rw [par_len] at h1 h2 ⊢
  rw [par_len]
  exact ⟨A', B', ca', cb', rfl, h1, h2, h3⟩
theorem equal_n (A B : Option Addr) (l m : List UInt8) (ca cb n k : Nat) (W : World) (hn : l.length = n) (hk : m.length = k) (hl : Reads W A (l.map byt)) (hm : Reads W B (m.map byt)) (e : l = m) :
    Calls Try.prog 15 #[.slice A n ca, .slice B k cb] W fun e W' => e = .returned (.bool true) ∧ W = W' := by
  subst hn hk; exact equal_same A B l m ca cb W hl hm e
/-- Two slices of n bytes and an error. -/
def TwoErrN (p q : List UInt8) (n : Nat) (err : Int) (W : World) (e : Ending) (W' : World) : Prop :=
  ∃ (A B : Option Addr) (ca cb : Nat), e = .returned (.tuple #[.slice A n ca, .slice B n cb, .int .i64 err]) ∧ n ≤ ca ∧ n ≤ cb ∧ Reads W' A (p.map byt) ∧ Reads W' B (q.map byt) ∧ Below W.heap.size W W'
theorem make_n (A : Option Addr) (rows : List (List UInt8)) (ca l n : Nat) (hll : rows.length = l) (hn : wide rows = n) (hs : Sane rows) (hc : l ≤ ca) (hw : wrongE rows = 0) (W : World) (hR : Rds W A rows) :
    Calls Try.prog 9 #[.slice A l ca] W (TwoErrN (par 1 rows) (par 2 rows) n 0 W) := by
  subst hll hn
  refine (make_c A rows ca W hs hc hR).mono ?_
  rintro e w' ⟨A', B', ca', cb', p, q, err, rfl, h1, h2, h3, h4, h5, hm⟩
  obtain ⟨rfl, rfl, rfl⟩ := make_ok hm hw
  rw [par_len] at h1 h2 ⊢
  rw [par_len]
  exact ⟨A', B', ca', cb', rfl, h1, h2, h3, h4, h5⟩
theorem make_no (A : Option Addr) (rows : List (List UInt8)) (ca l : Nat) (k : Int) (hll : rows.length = l) (hs : Sane rows) (hc : l ≤ ca) (hw : wrongE rows = k) (hk : k ≠ 0) (W : World) (hR : Rds W A rows) :
    Calls Try.prog 9 #[.slice A l ca] W (TwoErrN [] [] 0 k W) := by
  subst hll hw
  refine (make_c A rows ca W hs hc hR).mono ?_
  rintro e w' ⟨A', B', ca', cb', p, q, err, rfl, h1, h2, h3, h4, h5, hm⟩
  obtain ⟨rfl, rfl⟩ := hm.2.1 (by rw [hm.1]; exact hk)
  rw [hm.1]
  exact ⟨A', B', ca', cb', rfl, h1, h2, h3, h4, h5⟩
end Go.Proofs.Ytpjopdemhdeelaa.Pair
