/-
  The check of a few known values that the statements about package mix begin with: it answers true.
-/
import Derived.Test.YtimbibphpaibiaaMix
namespace Go.Proofs.Ytimbibphpaibiaa.Mix
open Go.RowKit

theorem one_at (n : Nat) (h : n < 18446744073709551616) (w : World) :
    Calls Try.prog 11 #[.int .u64 (@OfNat.ofNat Int n _)] w fun e w' => e = .returned (.int .u64 (one (@OfNat.ofNat UInt64 n _)).toNat) ∧ w = w' := by
  rw [Words.lit64 n h]; exact one_c _ w
theorem one_at0 (w : World) : Calls Try.prog 11 #[.int .u64 0] w fun e w' => e = .returned (.int .u64 0) ∧ w = w' := one_at 0 (by decide) w
theorem one_at1 (w : World) : Calls Try.prog 11 #[.int .u64 1] w fun e w' => e = .returned (.int .u64 12994781566227106604) ∧ w = w' := one_at 1 (by decide) w
theorem back_at (w : World) : Calls Try.prog 12 #[.int .u64 12994781566227106604] w fun e w' => e = .returned (.int .u64 1) ∧ w = w' := back_c 0xb456bcfc34c2cb2c w
theorem one_atS (w : World) : Calls Try.prog 11 #[.int .u64 14695981039346656037] w fun e w' => e = .returned (.int .u64 17280346270528514342) ∧ w = w' := one_at 0xcbf29ce484222325 (by decide) w
theorem text_at (w : World) : Calls Try.prog 15 #[.string { data := #[] }] w fun e w' => e = .returned (.int .u64 17280346270528514342) ∧ w = w' := text_c { data := #[] } w (by decide)

set_option maxHeartbeats 400000 in
theorem alive_c (w : World) :
    Calls Try.prog 17 #[] w fun e w' => e = .returned (.bool true) ∧ w = w' := by
  go_enter Try.func17, Try.ntmps17
  go_wp2_with fail
  refine (one_at0 _).mono ?_
  rintro e w' ⟨rfl, rfl⟩
  go_wp2_with fail
  refine (one_at1 _).mono ?_
  rintro e w' ⟨rfl, rfl⟩
  go_wp2_with fail
  refine (back_at _).mono ?_
  rintro e w' ⟨rfl, rfl⟩
  go_wp2_with fail
  refine (text_at _).mono ?_
  rintro e w' ⟨rfl, rfl⟩
  go_wp2_with fail
  refine (one_atS _).mono ?_
  rintro e w' ⟨rfl, rfl⟩
  go_wp2_with fail
  go_ret
  exact ⟨rfl, rfl⟩
end Go.Proofs.Ytimbibphpaibiaa.Mix
