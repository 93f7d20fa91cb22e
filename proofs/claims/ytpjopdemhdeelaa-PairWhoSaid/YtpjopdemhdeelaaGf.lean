/-
  Contracts of package gf: what timesX, Mul, power, Pow, Inv, Div and Log return, as functions of the field.
-/
import Derived.Test.YtpjopdemhdeelaaRows
import Derived.Test.YtpjopdemhdeelaaGfPure
import Derived.Test.YtpjopdemhdeelaaBits
import Derived.WalkLawsBesides
import Derived.WalkSpells
import Derived.Outline
import Derived.Lib.Hide
import Derived.Below
namespace Go.Proofs.Ytpjopdemhdeelaa.Gf
set_option linter.unusedVariables false
open Go.RowKit

/-- A sum under a name of its own: the walk's simp set opens the plain one. -/
def add (a b : UInt8) : UInt8 := a ^^^ b
theorem add8 (a b : UInt8) : bits .xor .u8 (a.toNat : Int) (b.toNat : Int) = ((add a b).toNat : Int) := by
  unfold add; rw [u8_xor_nat _ _ a.toNat_lt b.toNat_lt, UInt8.toNat_xor]
theorem xt_all : ∀ n : Nat, n < 256 → bits .xor .u8 ((((UInt8.ofNat n).toNat : Int) * 2) % 256) ((((UInt8.ofNat n).toNat : Int) / 128) * 29) = ((xt (UInt8.ofNat n)).toNat : Int) := by decide +kernel
theorem xt8 (a : UInt8) : bits .xor .u8 (((a.toNat : Int) * 2) % 256) (((a.toNat : Int) / 128) * 29) = ((xt a).toNat : Int) :=
  all8 (P := fun a => bits .xor .u8 (((a.toNat : Int) * 2) % 256) (((a.toNat : Int) / 128) * 29) = ((xt a).toNat : Int)) xt_all a
def sh (a : UInt8) : UInt8 := a >>> 1
theorem sh_nat (a : UInt8) : (sh a).toNat = a.toNat / 2 := by
  unfold sh; rw [UInt8.toNat_shiftRight, show ((1 : UInt8).toNat % 8) = 1 from rfl, Nat.shiftRight_eq_div_pow]
theorem bit_sh (a : UInt8) (i : Nat) : bit (sh a) i = bit a (i + 1) := by
  unfold bit; rw [sh_nat, Nat.testBit_succ]
theorem bit_top (a : UInt8) (i : Nat) (h : 8 ≤ i) : bit a i = false := by
  unfold bit; exact Nat.testBit_lt_two_pow (Nat.lt_of_lt_of_le a.toNat_lt (Nat.pow_le_pow_right (n := 2) (by omega) h))
theorem mul_step (a b : UInt8) : mul a b = sel (bit b 0) a ^^^ mul (xt a) (sh b) := by
  conv => rhs; rw [mul]
  simp only [bit_sh, bit_top b 8 (by omega)]
  rw [mul]
  simp [sel]
theorem low8 (a b : UInt8) : ((a.toNat : Int) * bits .and .u8 (b.toNat : Int) 1) % 256 = ((sel (bit b 0) a).toNat : Int) := by
  have h := Bits.bit8 b 0
  rw [Int.pow_zero, Int.ediv_one] at h
  rw [h]
  unfold sel bit
  by_cases hb : b.toNat.testBit 0 = true
  · simp [hb]; have := a.toNat_lt; omega
  · simp [hb]
/-- What stands in the loop: the product so far, and what is still to come. -/
theorem mul_round (p a b c : UInt8) (h : c = add p (mul a b)) : c = add (add p (sel (bit b 0) a)) (mul (xt a) (sh b)) := by
  rw [h, mul_step a b]; unfold add; rw [UInt8.xor_assoc]
theorem mul_end (p a b c : UInt8) (h : c = add p (mul a b)) (hb : b = 0) : p = c := by
  rw [h, hb, mul_zero]; unfold add; simp

theorem timesX_c (a : UInt8) (W : World) :
    Calls Try.prog 39 #[.int .u8 a.toNat] W fun e W' => e = .returned (.int .u8 (xt a).toNat) ∧ W = W' := by
  have hlt := a.toNat_lt
  go_enter Try.func39, Try.ntmps39
  go_wp2
  go_ret
  refine ⟨?_, rfl⟩
  show Ending.returned (.int .u8 (bits .xor .u8 (((a.toNat : Int) * 2) % 256) (((a.toNat : Int) / 128) * 29))) = _
  rw [xt8]

set_option maxHeartbeats 1000000 in
theorem mul_c (a b : UInt8) (W : World) :
    Calls Try.prog 22 #[.int .u8 a.toNat, .int .u8 b.toNat] W fun e W' => e = .returned (.int .u8 (mul a b).toNat) ∧ W = W' := by
  go_enter Try.func22, Try.ntmps22
  go_wp2
  go_loop [0, 1, 5] (fun x y p => ∃ (u v q : UInt8), mul a b = add q (mul u v) ∧ x = .int .u8 u.toNat ∧ y = .int .u8 v.toNat ∧ p = .int .u8 q.toNat) (fun _ y _ => (intOf y).toNat)
  case atStart => exact ⟨a, b, 0, by unfold add; simp, rfl, rfl, rfl⟩
  case round =>
    obtain ⟨u, v, q, he, rfl, rfl, rfl⟩ := hrel
    have HE := Lib.hid he
    clear he
    by_cases hv : v = 0
    · subst hv
      go_wp2
      go_ret
      refine ⟨?_, rfl⟩
      show Ending.returned (.int .u8 q.toNat) = _
      rw [mul_end q u 0 _ HE.out rfl]
    · have hv0 : 0 < (v.toNat : Int) := by
        have : v.toNat ≠ 0 := fun h => hv (UInt8.toNat_inj.1 h)
        omega
      have hv1 : ((v.toNat : Int) == 0) = false := by rw [beq_eq_false_iff_ne]; omega
      have HV := Lib.hid hv
      clear hv
      go_wp2_with (go_at_call 39; refine (timesX_c _ _).mono ?_; rintro e w' ⟨rfl, rfl⟩)
      go_round
      case rel => exact ⟨xt u, sh v, add q (sel (bit v 0) u), mul_round q u v _ HE.out, rfl, by rw [sh_nat, Int.natCast_ediv]; rfl, by rw [low8, add8]⟩
      case measure => simp [intOf]; omega

/-- Powers by squaring: what stands in the loop. -/
theorem pow_half (p a c : UInt8) (n : Nat) (h : c = mul p (pow a n)) : c = mul (if n % 2 = 1 then mul p a else p) (pow (mul a a) (n / 2)) := by
  have e : n = n % 2 + 2 * (n / 2) := by omega
  have h2 : pow (mul a a) (n / 2) = pow a (2 * (n / 2)) := by
    rw [pow_mul a 2 (n / 2), ← sq_pow]; rfl
  rw [h, h2]
  conv => lhs; rw [e, pow_add]
  rcases Nat.mod_two_eq_zero_or_one n with h0 | h0
  · rw [h0, if_neg (by omega)]; show mul p (mul 1 _) = _; rw [one_mul]
  · rw [h0, if_pos rfl]; show mul p (mul (mul 1 a) _) = _; rw [one_mul, mul_assoc]
theorem odd64 (n : Nat) (h : n < 9223372036854775808) : bits .and .i64 (n : Int) 1 = ((n % 2 : Nat) : Int) := by
  rw [show (1 : Int) = ((1 : Nat) : Int) from rfl, Bits.and64 _ _ h (by omega), Nat.and_one_is_mod]

set_option maxHeartbeats 1000000 in
theorem power_c (a : UInt8) (n : Nat) (hn : n < 9223372036854775808) (W : World) :
    Calls Try.prog 38 #[.int .u8 a.toNat, .int .i64 n] W fun e W' => e = .returned (.int .u8 (pow a n).toNat) ∧ W = W' := by
  go_enter Try.func38, Try.ntmps38
  go_wp2
  go_loop [0, 1, 5] (fun x y p => ∃ (u q : UInt8) (m : Nat), m < 9223372036854775808 ∧ pow a n = mul q (pow u m) ∧ x = .int .u8 u.toNat ∧ y = .int .i64 m ∧ p = .int .u8 q.toNat) (fun _ y _ => (intOf y).toNat)
  case atStart => exact ⟨a, 1, n, hn, by rw [one_mul], rfl, rfl, rfl⟩
  case round =>
    obtain ⟨u, q, m, hm, he, rfl, rfl, rfl⟩ := hrel
    have HE := Lib.hid (pow_half q u _ m he)
    have HZ := Lib.hid he
    clear he
    have ho := odd64 m hm
    by_cases h0 : 0 < m
    · rcases Nat.mod_two_eq_zero_or_one m with h1 | h1
      · rw [h1] at ho
        have H1 := Lib.hid h1
        clear h1
        go_wp2_with (go_at_call 22; refine (mul_c _ _ _).mono ?_; rintro e w' ⟨rfl, rfl⟩)
        go_round
        case rel =>
          have h := HE.out
          rw [if_neg (by rw [H1.out]; omega)] at h
          exact ⟨mul u u, q, m / 2, by omega, h, rfl, by rw [Int.natCast_ediv]; rfl, rfl⟩
        case measure => simp [intOf]; omega
      · rw [h1] at ho
        have H1 := Lib.hid h1
        clear h1
        go_wp2_with (go_at_call 22; refine (mul_c _ _ _).mono ?_; rintro e w' ⟨rfl, rfl⟩)
        go_round
        case rel =>
          have h := HE.out
          rw [if_pos H1.out] at h
          exact ⟨mul u u, mul q u, m / 2, by omega, h, rfl, by rw [Int.natCast_ediv]; rfl, rfl⟩
        case measure => simp [intOf]; omega
    · obtain rfl : m = 0 := by omega
      clear ho
      go_wp2
      go_ret
      refine ⟨?_, rfl⟩
      show Ending.returned (.int .u8 q.toNat) = _
      rw [HZ.out]
      show _ = Ending.returned (.int .u8 (mul q 1).toNat)
      rw [mul_one]
/-- What Pow returns. -/
def Pows (a : UInt8) (n : Int) (W : World) (e : Ending) (W' : World) : Prop :=
  (if n < 0 then e = .returned (.tuple #[.int .u8 0, .int .i64 2]) else e = .returned (.tuple #[.int .u8 (pow a n.toNat).toNat, .int .i64 0])) ∧ W = W'
theorem pow_neg (a : UInt8) (n : Int) (hn : n < 0) (W : World) :
    Calls Try.prog 21 #[.int .u8 a.toNat, .int .i64 n] W fun e W' => e = .returned (.tuple #[.int .u8 0, .int .i64 2]) ∧ W = W' := by
  go_enter Try.func21, Try.ntmps21
  go_wp2
  go_ret2
  exact ⟨rfl, rfl⟩
theorem pow_c (a : UInt8) (n : Nat) (hn : n < 9223372036854775808) (W : World) :
    Calls Try.prog 21 #[.int .u8 a.toNat, .int .i64 n] W fun e W' => e = .returned (.tuple #[.int .u8 (pow a n).toNat, .int .i64 0]) ∧ W = W' := by
  go_enter Try.func21, Try.ntmps21
  go_wp2_with (go_at_call 38; refine (power_c _ _ hn _).mono ?_; rintro e w' ⟨rfl, rfl⟩)
  go_ret2
  exact ⟨rfl, rfl⟩
theorem power254 (a : UInt8) (W : World) :
    Calls Try.prog 38 #[.int .u8 a.toNat, .int .i64 254] W fun e W' => e = .returned (.int .u8 (inv a).toNat) ∧ W = W' := by
  rw [inv_pow]; exact power_c a 254 (by omega) W
theorem inv_0 (W : World) :
    Calls Try.prog 41 #[.int .u8 0] W fun e W' => e = .returned (.tuple #[.int .u8 0, .int .i64 3]) ∧ W = W' := by
  go_enter Try.func41, Try.ntmps41
  go_wp2
  go_ret2
  exact ⟨rfl, rfl⟩
theorem inv_c (a : UInt8) (ha : 0 < a.toNat) (W : World) :
    Calls Try.prog 41 #[.int .u8 a.toNat] W fun e W' => e = .returned (.tuple #[.int .u8 (inv a).toNat, .int .i64 0]) ∧ W = W' := by
  have h1 : ((a.toNat : Int) == 0) = false := by rw [beq_eq_false_iff_ne]; omega
  go_enter Try.func41, Try.ntmps41
  go_wp2_with (go_at_call 38; refine (power254 _ _).mono ?_; rintro e w' ⟨rfl, rfl⟩)
  go_ret2
  exact ⟨rfl, rfl⟩
theorem div_0 (a : UInt8) (W : World) :
    Calls Try.prog 42 #[.int .u8 a.toNat, .int .u8 0] W fun e W' => e = .returned (.tuple #[.int .u8 0, .int .i64 3]) ∧ W = W' := by
  go_enter Try.func42, Try.ntmps42
  go_wp2_with (go_at_call 41; refine (inv_0 _).mono ?_; rintro e w' ⟨rfl, rfl⟩)
  go_ret2
  exact ⟨rfl, rfl⟩
theorem div_c (a b : UInt8) (hb : 0 < b.toNat) (W : World) :
    Calls Try.prog 42 #[.int .u8 a.toNat, .int .u8 b.toNat] W fun e W' => e = .returned (.tuple #[.int .u8 (mul a (inv b)).toNat, .int .i64 0]) ∧ W = W' := by
  go_enter Try.func42, Try.ntmps42
  go_wp2_with (first | (go_at_call 41; refine (inv_c _ hb _).mono ?_; rintro e w' ⟨rfl, rfl⟩) | (go_at_call 22; refine (mul_c _ _ _).mono ?_; rintro e w' ⟨rfl, rfl⟩))
  go_ret2
  exact ⟨rfl, rfl⟩
/-! ### Log -/
theorem xt_mul2_all : ∀ n : Nat, n < 256 → xt (UInt8.ofNat n) = mul (UInt8.ofNat n) 2 := by decide +kernel
theorem xt_mul2 (a : UInt8) : xt a = mul a 2 := all8 (P := fun a => xt a = mul a 2) xt_mul2_all a
theorem xts_succ (n : Nat) : xts (n + 1) = xt (xts n) := by rw [xts, xt_mul2]
theorem log_of {a : UInt8} {k : Nat} (hk : k < 255) (h : xts k = a) : log a = k := by rw [← h, log_xts k hk]
theorem log_none {a : UInt8} (h : ∀ j, j < 255 → xts j ≠ a) : a = 0 := by
  by_cases ha : a = 0
  · exact ha
  · obtain ⟨h1, h2⟩ := log_spec ha
    exact absurd (by rw [xts_pow]; exact h2) (h _ h1)
def Ne_ (a : UInt8) (k : Nat) : Prop := ∀ j, j < k → xts j ≠ a
theorem ne_next {a : UInt8} {k : Nat} (h : Ne_ a k) (h1 : ¬ xts k = a) : Ne_ a (k + 1) := fun j hj => by
  by_cases e : j = k
  · subst e; exact h1
  · exact h j (by omega)
def Logs (a : UInt8) (W : World) (e : Ending) (W' : World) : Prop :=
  (if a = 0 then e = .returned (.tuple #[.int .i64 0, .int .i64 3]) else e = .returned (.tuple #[.int .i64 (log a), .int .i64 0])) ∧ W = W'

set_option maxRecDepth 100000 in
set_option maxHeartbeats 1000000 in
theorem logs_c (a : UInt8) (W : World) :
    Calls Try.prog 43 #[.int .u8 a.toNat] W (Logs a W) := by
  go_enter Try.func43, Try.ntmps43
  go_wp2
  go_loop [4, 6] (fun x i => ∃ k : Nat, k ≤ 255 ∧ Ne_ a k ∧ x = .int .u8 (xts k).toNat ∧ i = .int .i64 k) (fun _ i => 255 - (intOf i).toNat)
  case atStart => exact ⟨0, by omega, fun j hj => absurd hj (by omega), rfl, rfl⟩
  case round =>
    obtain ⟨k, hk, hN, rfl, rfl⟩ := hrel
    have HN := Lib.hid hN
    clear hN
    by_cases hlt : k < 255
    · by_cases hx : xts k = a
      · have b1 : (((xts k).toNat : Int) == (a.toNat : Int)) = true := by rw [hx]; simp
        have HX := Lib.hid hx
        clear hx
        go_wp2
        go_ret2
        have hl := log_of hlt HX.out
        have ha : ¬ a = 0 := by
          intro h0
          have h1 := HX.out
          rw [h0, xts_pow] at h1
          have : pow 2 k ≠ 0 := by
            have h2 := pow_add 2 k (255 - k)
            rw [show k + (255 - k) = 255 by omega, pow_255 (by decide), h1, zero_mul] at h2
            exact absurd h2 (by decide)
          exact this h1
        refine ⟨?_, rfl⟩
        rw [if_neg ha, hl]
        rfl
      · have b1 : (((xts k).toNat : Int) == (a.toNat : Int)) = false := by
          rw [beq_eq_false_iff_ne]; intro e; exact hx (UInt8.toNat_inj.1 (by omega))
        have HX := Lib.hid hx
        clear hx
        go_wp2_with (go_at_call 39; refine (timesX_c _ _).mono ?_; rintro e w' ⟨rfl, rfl⟩)
        go_round
        case rel => exact ⟨k + 1, by omega, ne_next HN.out HX.out, by rw [xts_succ], by go_num⟩
        case measure => simp [intOf]; omega
    · obtain rfl : k = 255 := by omega
      go_wp2
      go_ret2
      exact ⟨by rw [if_pos (log_none HN.out)]; rfl, rfl⟩
theorem log_0 (W : World) : Calls Try.prog 43 #[.int .u8 0] W fun e W' => e = .returned (.tuple #[.int .i64 0, .int .i64 3]) ∧ W = W' :=
  (logs_c 0 W).mono fun e W' h => ⟨by have := h.1; rwa [if_pos rfl] at this, h.2⟩
theorem log_c (a : UInt8) (ha : a ≠ 0) (W : World) : Calls Try.prog 43 #[.int .u8 a.toNat] W fun e W' => e = .returned (.tuple #[.int .i64 (log a), .int .i64 0]) ∧ W = W' :=
  (logs_c a W).mono fun e W' h => ⟨by have := h.1; rwa [if_neg ha] at this, h.2⟩
end Go.Proofs.Ytpjopdemhdeelaa.Gf
