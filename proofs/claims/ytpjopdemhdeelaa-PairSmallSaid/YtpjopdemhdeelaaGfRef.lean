/-
  The reference's BMul, BPow and BInv.
-/
import Derived.Test.YtpjopdemhdeelaaRows
import Derived.Test.YtpjopdemhdeelaaGfRefPure
import Derived.WalkLawsBesides
import Derived.WalkSpells
import Derived.Outline
import Derived.Lib.Hide
import Derived.Below
import Derived.Deep.QuietTactic
import Derived.BigQuiet
namespace Go.Proofs.Ytpjopdemhdeelaa.Gf
set_option linter.unusedVariables false
open Go.RowKit

theorem byte_mod (n : Nat) : (n : Int) % 256 = ((n % 256 : Nat) : Int) := by omega

set_option maxHeartbeats 2000000 in
theorem bMul_c (a b : UInt8) (W : World) :
    Calls Try.prog 31 #[.int .u8 a.toNat, .int .u8 b.toNat] W fun e W' => e = .returned (.int .u8 (mul a b).toNat) ∧ W = W' := by
  go_enter Try.func31, Try.ntmps31
  go_wp2
  go_loop [5, 9] (fun x i => ∃ (ii xx : Nat), ii ≤ 8 ∧ xx < 32768 ∧ xx = prodTo a.toNat b.toNat ii ∧ i = .int .i64 ii ∧ x = .int .i64 xx) (fun _ i => 8 - (intOf i).toNat)
  case atStart => exact ⟨0, 0, by omega, by omega, rfl, rfl, rfl⟩
  case round =>
    obtain ⟨ii, xx, hi, hx, hxe, rfl, rfl⟩ := hrel
    have HX := Lib.hid hxe
    clear hxe
    by_cases h8 : ii < 8
    · go_wp2
      go_loop [5, 12] (fun x i => ∃ (jj xy : Nat), jj ≤ 8 ∧ xy < 32768 ∧ xy = lineTo a.toNat b.toNat ii xx jj ∧ i = .int .i64 jj ∧ x = .int .i64 xy) (fun _ i => 8 - (intOf i).toNat)
      case atStart => exact ⟨0, xx, by omega, hx, rfl, rfl, rfl⟩
      case round =>
        obtain ⟨jj, xy, hj, hy, hye, rfl, rfl⟩ := hrel
        have HY := Lib.hid hye
        clear hye
        by_cases h9 : jj < 8
        · have HS := Lib.hid (line_lt (a := a.toNat) (b := b.toNat) (i := ii) (x := xx) h8 hx (jj + 1) (by omega))
          go_wp2
          · go_round
            case rel =>
              have hA : bits .and .u8 ((a.toNat : Int) / 2 ^ ii) 1 = 1 := by assumption
              have hB : (bits .and .u8 ((b.toNat : Int) / 2 ^ jj) 1 == 1) = true := by assumption
              rw [beq_iff_eq] at hB
              rw [Bits.bit8] at hA hB
              have hA' : a.toNat.testBit ii = true := by
                by_cases h : a.toNat.testBit ii = true
                · exact h
                · rw [if_neg h] at hA; omega
              have hB' : b.toNat.testBit jj = true := by
                by_cases h : b.toNat.testBit jj = true
                · exact h
                · rw [if_neg h] at hB; omega
              have hl : lineTo a.toNat b.toNat ii xx (jj + 1) = xy ^^^ 2 ^ (ii + jj) := by
                rw [lineTo, hA', hB', ← HY.out]; rfl
              have hlt := HS.out
              rw [hl] at hlt
              exact ⟨jj + 1, xy ^^^ 2 ^ (ii + jj), by omega, hlt, hl.symm, by go_num, by rw [Bits.set64 _ _ (by omega) (by omega)]⟩
            case measure => simp [intOf]; omega
          · go_round
            case rel =>
              have hB : (bits .and .u8 ((b.toNat : Int) / 2 ^ jj) 1 == 1) = false := by assumption
              rw [beq_eq_false_iff_ne, Bits.bit8] at hB
              have hB' : b.toNat.testBit jj = false := by
                by_cases h : b.toNat.testBit jj = true
                · rw [if_pos h] at hB; exact absurd rfl hB
                · simpa using h
              have hl : lineTo a.toNat b.toNat ii xx (jj + 1) = xy := by
                rw [lineTo, hB', ← HY.out, Bool.and_false]; rfl
              exact ⟨jj + 1, xy, by omega, hy, hl.symm, by go_num, rfl⟩
            case measure => simp [intOf]; omega
          · go_round
            case rel =>
              have hA : ¬ bits .and .u8 ((a.toNat : Int) / 2 ^ ii) 1 = 1 := by assumption
              rw [Bits.bit8] at hA
              have hA' : a.toNat.testBit ii = false := by
                by_cases h : a.toNat.testBit ii = true
                · rw [if_pos h] at hA; exact absurd rfl hA
                · simpa using h
              have hl : lineTo a.toNat b.toNat ii xx (jj + 1) = xy := by
                rw [lineTo, hA', ← HY.out, Bool.false_and]; rfl
              exact ⟨jj + 1, xy, by omega, hy, hl.symm, by go_num, rfl⟩
            case measure => simp [intOf]; omega
        · obtain rfl : jj = 8 := by omega
          go_wp2
          go_round
          case rel => exact ⟨ii + 1, xy, by omega, hy, by rw [prodTo, ← HX.out, HY.out], by go_num, rfl⟩
          case measure => simp [intOf]; omega
    · obtain rfl : ii = 8 := by omega
      go_wp2
      go_loop [5, 8] (fun x i => ∃ (kk xy : Nat), kk ≤ 7 ∧ xy < 32768 ∧ xy = redTo xx (7 - kk) ∧ i = .int .i64 (kk + 7) ∧ x = .int .i64 xy) (fun _ i => (intOf i).toNat)
      case atStart => exact ⟨7, xx, by omega, hx, rfl, rfl, rfl⟩
      case round =>
        obtain ⟨kk, xy, hk, hy, hye, rfl, rfl⟩ := hrel
        have HY := Lib.hid hye
        clear hye
        by_cases h9 : 0 < kk
        · obtain ⟨k, rfl⟩ : ∃ k, kk = k + 1 := ⟨kk - 1, by omega⟩
          have HS := Lib.hid (red_lt hx (7 - k) (by omega))
          have hm : 7 - k = (7 - (k + 1)) + 1 := by omega
          have HM := Lib.hid hm
          have hm1 : 14 - (7 - (k + 1)) = k + 1 + 7 := by omega
          have HM1 := Lib.hid hm1
          have hm2 : 6 - (7 - (k + 1)) = k := by omega
          have HM2 := Lib.hid hm2
          clear hm hm1 hm2
          go_wp2
          · go_round
            case rel =>
              have hB : (bits .and .i64 ((xy : Int) / 2 ^ (k + 1 + 7)) 1 == 1) = true := by assumption
              rw [beq_iff_eq, Bits.bit64 _ _ (by omega)] at hB
              have hB' : xy.testBit (k + 1 + 7) = true := by
                by_cases h : xy.testBit (k + 1 + 7) = true
                · exact h
                · rw [if_neg h] at hB; omega
              have hl : redTo xx (7 - k) = xy ^^^ (285 * 2 ^ k) := by
                rw [HM.out, redTo, ← HY.out, HM1.out, HM2.out, hB']; rfl
              have hlt := HS.out
              rw [hl] at hlt
              have h2 : 2 ^ k ≤ 2 ^ 6 := Nat.pow_le_pow_right (by omega) (by omega)
              exact ⟨k, xy ^^^ (285 * 2 ^ k), by omega, hlt, hl.symm, by go_num, by rw [show (285 : Int) = ((285 : Nat) : Int) from rfl, Bits.setc64 _ _ _ (by omega) (by omega)]⟩
            case measure => simp [intOf]; omega
          · go_round
            case rel =>
              have hB : (bits .and .i64 ((xy : Int) / 2 ^ (k + 1 + 7)) 1 == 1) = false := by assumption
              rw [beq_eq_false_iff_ne, Bits.bit64 _ _ (by omega)] at hB
              have hB' : xy.testBit (k + 1 + 7) = false := by
                by_cases h : xy.testBit (k + 1 + 7) = true
                · rw [if_pos h] at hB; exact absurd rfl hB
                · simpa using h
              have hl : redTo xx (7 - k) = xy := by
                rw [HM.out, redTo, ← HY.out, HM1.out, hB']; rfl
              exact ⟨k, xy, by omega, hy, hl.symm, by go_num, rfl⟩
            case measure => simp [intOf]; omega
        · obtain rfl : kk = 0 := by omega
          go_wp2
          go_ret
          refine ⟨?_, rfl⟩
          have h : xy % 256 = (mul a b).toNat := by rw [HY.out, HX.out]; exact bmul_nat a b
          show Ending.returned (.int .u8 ((xy : Int) % 256)) = _
          rw [byte_mod, h]

theorem pow_turn (a : UInt8) (n : Nat) (h : 0 < n) : pow a ((n - 1) % 255 + 1) = pow a n := by
  by_cases ha : a = 0
  · subst ha; rw [pow_zero_base (by omega), pow_zero_base h]
  · obtain ⟨m, rfl⟩ : ∃ m, n = m + 1 := ⟨n - 1, by omega⟩
    show mul (pow a (m % 255)) a = mul (pow a m) a
    rw [pow_mod ha]

theorem inv_unique {a b : UInt8} (h : mul a b = 1) : b = inv a := by
  have ha : a ≠ 0 := fun e => by rw [e, zero_mul] at h; exact absurd h (by decide)
  exact mul_cancel ha (by rw [h, mul_inv ha])
theorem inv_zero : inv 0 = 0 := by decide +kernel

/-- None of the first k bytes is an inverse. -/
def None_ (a : UInt8) (k : Nat) : Prop := ∀ j, j < k → mul a (UInt8.ofNat j) ≠ 1
theorem none_next {a : UInt8} {k : Nat} (h : None_ a k) (h1 : ¬ mul a (UInt8.ofNat k) = 1) : None_ a (k + 1) := fun j hj => by
  by_cases e : j = k
  · subst e; exact h1
  · exact h j (by omega)
theorem none_inv {a : UInt8} (h : None_ a 256) : inv a = 0 := by
  by_cases ha : a = 0
  · rw [ha, inv_zero]
  · have := h (inv a).toNat (inv a).toNat_lt
    rw [UInt8.ofNat_toNat, mul_inv ha] at this
    exact absurd rfl this
def BInvs (a : UInt8) (W : World) (e : Ending) (W' : World) : Prop := e = .returned (.int .u8 (inv a).toNat) ∧ W = W'
end Go.Proofs.Ytpjopdemhdeelaa.Gf
