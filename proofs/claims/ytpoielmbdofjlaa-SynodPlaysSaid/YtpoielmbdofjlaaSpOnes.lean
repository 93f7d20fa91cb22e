/-
  bits.OnesCount16.
-/
import Derived.Test.YtpoielmbdofjlaaQrPure
import Derived.Test.YtpoielmbdofjlaaJpEqZ
import Derived.Laws.BitsLemmas
import Derived.Lib.Tables
import Derived.BigQuiet
namespace Go.Proofs.Ytpoielmbdofjlaa.Syn
set_option linter.unusedVariables false
set_option linter.unusedSimpArgs false
open Go.RowKit Mem
open Go.Lib
open Qr (pc_fuel pc_le)
open Jump (Gave)
theorem wrap16u (n : Int) (h₀ : 0 ≤ n) (h₁ : n < 2 ^ 16) : IntKind.u16.wrap n = n := by simp [IntKind.wrap, IntKind.bits, IntKind.signed]; omega
theorem and16u {a b : Nat} (ha : a < 65536) (hb : b < 65536) : Go.bits .and .u16 (a : Int) (b : Int) = ((a &&& b : Nat) : Int) := (bits_nat .u16 16 (by decide) wrap16u a b ha hb).1
theorem or16u {a b : Nat} (ha : a < 65536) (hb : b < 65536) : Go.bits .or .u16 (a : Int) (b : Int) = ((a ||| b : Nat) : Int) := (bits_nat .u16 16 (by decide) wrap16u a b ha hb).2

theorem pc_split : ∀ (f g x : Nat), popAux (f + g) x = popAux f x + popAux g (x / 2 ^ f)
  | 0, g, x => by simp [popAux]
  | f + 1, g, x => by
    rw [show f + 1 + g = (f + g) + 1 by omega, popAux, popAux, pc_split f g (x / 2), Nat.pow_succ, Nat.mul_comm, ← Nat.div_div_eq_div_mul]
    omega
theorem pc_mod : ∀ (f x : Nat), popAux f (x % 2 ^ f) = popAux f x
  | 0, x => rfl
  | f + 1, x => by
    have h1 : x % 2 ^ (f + 1) / 2 = x / 2 % 2 ^ f := by
      rw [Nat.pow_succ, Nat.mul_comm, Nat.mod_mul_right_div_self]
    have h2 : x % 2 ^ (f + 1) % 2 = x % 2 := Nat.mod_mod_of_dvd _ ⟨2 ^ f, by rw [Nat.pow_succ, Nat.mul_comm]⟩
    rw [popAux, popAux, h1, h2, pc_mod f (x / 2)]
theorem pop8_pc {n : Nat} (h : n < 256) : pop8 (n : Int) = (popAux 8 n : Int) := by
  have e := pop8_eq ⟨n, h⟩
  simp only at e
  rw [e]
  unfold onesCount
  rw [pc_fuel 8 64 n h (by decide)]
theorem pc_16 (x : Nat) : popAux 16 x = popAux 8 (x % 256) + popAux 8 (x / 256) := by
  rw [show (16 : Nat) = 8 + 8 from rfl, pc_split 8 8 x, ← pc_mod 8 x]
theorem wrap_u8 (n : Int) (h0 : 0 ≤ n) (h1 : n < 256) : IntKind.u8.wrap n = n := by rw [IntKind.wrap_u8]; omega
set_option maxRecDepth 100000 in
set_option maxHeartbeats 4000000 in
theorem ones16_c (x : Nat) (W : World) (hx : x < 65536) : Calls Try.prog 31 #[.int .u16 x] W (fun e W' => e = .returned (.int .i64 (popAux 16 x : Nat)) ∧ ∃ j, W' = W.drewN j) := by
  obtain ⟨hi, hhi⟩ : ∃ hi, hi = x / 256 := ⟨_, rfl⟩
  obtain ⟨lo, hlo⟩ : ∃ lo, lo = x % 256 := ⟨_, rfl⟩
  have b1 : hi < 256 := by omega
  have b2 : lo < 256 := by omega
  have e1 : (x : Int) / 256 = (hi : Int) := by omega
  have e2 : Go.bits .and .u16 (x : Int) 255 = (lo : Int) := by
    have := bits_mask .u16 16 (by decide) wrap16u 8 (by decide) (x : Int) (by omega) (by omega)
    rw [show ((2 : Int) ^ 8 - 1) = 255 by decide] at this
    rw [this]; omega
  have p1 := pop8_pc b1
  have p2 := pop8_pc b2
  have EP := Lib.hid (show popAux 16 x = popAux 8 lo + popAux 8 hi by rw [pc_16, hlo, hhi])
  obtain ⟨c1, hc1⟩ : ∃ c1, c1 = popAux 8 hi := ⟨_, rfl⟩
  obtain ⟨c2, hc2⟩ : ∃ c2, c2 = popAux 8 lo := ⟨_, rfl⟩
  have l1 : c1 ≤ 8 := by rw [hc1]; exact pc_le 8 hi
  have l2 : c2 ≤ 8 := by rw [hc2]; exact pc_le 8 lo
  rw [← hc1] at p1 EP
  rw [← hc2] at p2 EP
  have w1 : IntKind.u8.wrap ((c1 : Int) + (c2 : Int)) = (c1 : Int) + (c2 : Int) := wrap_u8 _ (by omega) (by omega)
  have w2 : IntKind.i64.wrap ((c1 : Int) + (c2 : Int)) = (c1 : Int) + (c2 : Int) := IntWalk.i64_in _ (by omega)
  have i1 : (hi : Int) ≤ 255 := by omega
  have i2 : (lo : Int) ≤ 255 := by omega
  clear hhi hlo hc1 hc2
  go_enter Try.func31, Try.ntmps31
  go_wp2
  go_quiet (fail)
  go_wp2
  go_ret
  refine ⟨?_, _, rfl⟩
  rw [EP.out]
  simp
  omega
end Go.Proofs.Ytpoielmbdofjlaa.Syn
