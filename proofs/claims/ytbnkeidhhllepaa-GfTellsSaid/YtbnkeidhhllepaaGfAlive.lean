/-
  The check of a few known values that the statements about package gf begin with: it answers true. And contracts at fixed arguments.
-/
import Derived.Test.YtbnkeidhhllepaaGf
namespace Go.Proofs.Ytbnkeidhhllepaa.Gf
set_option linter.unusedVariables false
open Go.RowKit

theorem eq8 {x y : UInt8} (h : x = y) : ((x.toNat : Int) == (y.toNat : Int)) = true := by rw [h]; exact beq_self_eq_true _
theorem ne8 {x y : UInt8} (h : ¬ x = y) : ((x.toNat : Int) == (y.toNat : Int)) = false := by
  rw [beq_eq_false_iff_ne]; intro e; exact h (UInt8.toNat_inj.1 (by omega))
theorem is0 {x : UInt8} (h : x = 0) : ((x.toNat : Int) == 0) = true := by rw [h]; rfl
theorem isnt0 {x : UInt8} (h : ¬ x = 0) : ((x.toNat : Int) == 0) = false := by
  rw [beq_eq_false_iff_ne]; intro e; exact h (UInt8.toNat_inj.1 (by show x.toNat = 0; omega))
theorem pos8 {x : UInt8} (h : ¬ x = 0) : 0 < x.toNat := by
  have : x.toNat ≠ 0 := fun e => h (UInt8.toNat_inj.1 e)
  omega

theorem inv_2 (W : World) : Calls Try.prog 9 #[.int .u8 2] W fun e W' => e = .returned (.tuple #[.int .u8 142, .int .i64 0]) ∧ W = W' := by
  have h := inv_c 2 (by decide) W
  rw [show inv 2 = 142 by decide +kernel] at h
  exact h
theorem log_29 (W : World) : Calls Try.prog 11 #[.int .u8 29] W fun e W' => e = .returned (.tuple #[.int .i64 8, .int .i64 0]) ∧ W = W' := by
  have h := log_c 29 (by decide) W
  rw [show log 29 = 8 by decide +kernel] at h
  exact h
theorem mul_128 (W : World) : Calls Try.prog 13 #[.int .u8 128, .int .u8 2] W fun e W' => e = .returned (.int .u8 29) ∧ W = W' := by
  have h := mul_c 128 2 W
  rw [show mul 128 2 = 29 by decide +kernel] at h
  exact h
set_option maxHeartbeats 400000 in
theorem alive_c (W : World) :
    Calls Try.prog 17 #[] W fun e W' => e = .returned (.bool true) ∧ W = W' := by
  go_enter Try.func17, Try.ntmps17
  go_wp2_with fail
  refine (inv_2 _).mono ?_
  rintro e w' ⟨rfl, rfl⟩
  go_wp2_with fail
  refine (log_29 _).mono ?_
  rintro e w' ⟨rfl, rfl⟩
  go_wp2_with fail
  refine (mul_128 _).mono ?_
  rintro e w' ⟨rfl, rfl⟩
  go_wp2_with fail
  go_ret
  exact ⟨rfl, rfl⟩

theorem mul_1 (a : UInt8) (W : World) : Calls Try.prog 13 #[.int .u8 a.toNat, .int .u8 1] W fun e W' => e = .returned (.int .u8 a.toNat) ∧ W = W' := by
  have h := mul_c a 1 W
  rwa [mul_one] at h
theorem inv_ne {b : UInt8} (h : ¬ b = 0) : ¬ inv b = 0 := fun e => by
  have := mul_inv h
  rw [e, mul_zero] at this
  exact absurd this (by decide)
theorem inv_inv {b : UInt8} (h : ¬ b = 0) : inv (inv b) = b :=
  mul_cancel (inv_ne h) (by rw [mul_inv (inv_ne h), mul_comm, mul_inv h])
theorem div_mul (a : UInt8) {b : UInt8} (h : ¬ b = 0) : mul (mul a (inv b)) b = a := by
  rw [mul_assoc, mul_comm (inv b), mul_inv h, mul_one]
theorem inv_inv_c (b : UInt8) (h : ¬ b = 0) (W : World) : Calls Try.prog 9 #[.int .u8 (inv b).toNat] W fun e W' => e = .returned (.tuple #[.int .u8 b.toNat, .int .i64 0]) ∧ W = W' := by
  have h1 := inv_c (inv b) (pos8 (inv_ne h)) W
  rwa [inv_inv h] at h1
theorem pow2_c (n : Nat) (hn : n < 9223372036854775808) (W : World) :
    Calls Try.prog 8 #[.int .u8 2, .int .i64 n] W fun e W' => e = .returned (.tuple #[.int .u8 (pow 2 n).toNat, .int .i64 0]) ∧ W = W' := pow_c 2 n hn W
end Go.Proofs.Ytbnkeidhhllepaa.Gf
