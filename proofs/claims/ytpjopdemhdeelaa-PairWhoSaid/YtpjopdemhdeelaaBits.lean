/-
  Bit operations on integers that are not below 0, as operations on natural numbers; one bit of a number.
-/
import Derived.Test.YtpjopdemhdeelaaWords
namespace Go.Proofs.Ytpjopdemhdeelaa.Bits
open Go.RowKit

theorem of64 (a : Nat) (ha : a < 9223372036854775808) : (BitVec.ofInt 64 (a : Int)).toNat = a := by
  rw [BitVec.ofInt_natCast, BitVec.toNat_ofNat]; exact Nat.mod_eq_of_lt (by omega)
theorem and64 (a b : Nat) (ha : a < 9223372036854775808) (hb : b < 9223372036854775808) : bits .and .i64 (a : Int) (b : Int) = ((a &&& b : Nat) : Int) := by
  have hx : a &&& b < 2 ^ 63 := Nat.and_lt_two_pow _ (by omega)
  show IntKind.i64.wrap ((BitVec.ofInt 64 (a : Int) &&& BitVec.ofInt 64 (b : Int)).toNat : Int) = _
  rw [BitVec.toNat_and, of64 a ha, of64 b hb, IntKind.wrap_i64]
  omega
theorem xor64 (a b : Nat) (ha : a < 9223372036854775808) (hb : b < 9223372036854775808) : bits .xor .i64 (a : Int) (b : Int) = ((a ^^^ b : Nat) : Int) := by
  have hx : a ^^^ b < 2 ^ 63 := Nat.xor_lt_two_pow (by omega) (by omega)
  show IntKind.i64.wrap ((BitVec.ofInt 64 (a : Int) ^^^ BitVec.ofInt 64 (b : Int)).toNat : Int) = _
  rw [BitVec.toNat_xor, of64 a ha, of64 b hb, IntKind.wrap_i64]
  omega
theorem pow_cast (i : Nat) : ((2 : Int) ^ i) = ((2 ^ i : Nat) : Int) := by push_cast; rfl
theorem div_lt {a B : Nat} (ha : a < B) (n : Nat) : a / n < B := Nat.lt_of_le_of_lt (Nat.div_le_self _ _) ha
theorem and_one (x i : Nat) : (x / 2 ^ i) &&& 1 = if x.testBit i then 1 else 0 := by
  rw [Nat.and_one_is_mod, Nat.testBit_eq_decide_div_mod_eq]
  have := Nat.mod_two_eq_zero_or_one (x / 2 ^ i)
  by_cases h : x / 2 ^ i % 2 = 1 <;> simp [h]; omega
theorem bit8 (a : UInt8) (i : Nat) : bits .and .u8 ((a.toNat : Int) / 2 ^ i) 1 = if a.toNat.testBit i then 1 else 0 := by
  rw [pow_cast, ← Int.natCast_ediv, show (1 : Int) = ((1 : Nat) : Int) from rfl, u8_and_nat _ _ (div_lt a.toNat_lt _) (by omega), and_one]
  split <;> rfl
theorem bit64 (x i : Nat) (hx : x < 9223372036854775808) : bits .and .i64 ((x : Int) / 2 ^ i) 1 = if x.testBit i then 1 else 0 := by
  rw [pow_cast, ← Int.natCast_ediv, show (1 : Int) = ((1 : Nat) : Int) from rfl, and64 _ _ (div_lt hx _) (by omega), and_one]
  split <;> rfl
theorem set64 (x i : Nat) (hx : x < 9223372036854775808) (hi : i < 62) : bits .xor .i64 (x : Int) (wrap64 (2 ^ i)) = ((x ^^^ 2 ^ i : Nat) : Int) := by
  have h : (2 : Nat) ^ i < 2 ^ 62 := Nat.pow_lt_pow_right (by omega) hi
  rw [pow_cast]
  generalize (2 : Nat) ^ i = m at *
  rw [IntWalk.wrap64_in _ (by omega), xor64 _ _ hx (by omega)]
theorem setc64 (x c i : Nat) (hx : x < 9223372036854775808) (hi : c * 2 ^ i < 9223372036854775808) : bits .xor .i64 (x : Int) (wrap64 ((c : Int) * 2 ^ i)) = ((x ^^^ (c * 2 ^ i) : Nat) : Int) := by
  rw [pow_cast, ← Int.natCast_mul]
  generalize c * 2 ^ i = m at *
  rw [IntWalk.wrap64_in _ (by omega), xor64 _ _ hx hi]
end Go.Proofs.Ytpjopdemhdeelaa.Bits
