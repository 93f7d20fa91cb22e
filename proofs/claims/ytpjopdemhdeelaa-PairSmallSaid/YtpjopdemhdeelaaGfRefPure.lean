/-
  The reference's product of bytes as a function on natural numbers, and that it is the field's.
-/
import Derived.Test.YtpjopdemhdeelaaGfPure
import Derived.Test.YtpjopdemhdeelaaBits
namespace Go.Proofs.Ytpjopdemhdeelaa.Gf
set_option linter.unusedVariables false

/-- One line of the product without carries: behind j bits of b, at bit i of a. -/
def lineTo (a b i x : Nat) : Nat → Nat
  | 0 => x
  | j + 1 => if a.testBit i && b.testBit j then lineTo a b i x j ^^^ 2 ^ (i + j) else lineTo a b i x j
def prodTo (a b : Nat) : Nat → Nat
  | 0 => 0
  | i + 1 => lineTo a b i (prodTo a b i) 8
/-- Divided: behind m steps from bit 14 down. -/
def redTo (x : Nat) : Nat → Nat
  | 0 => x
  | m + 1 => if (redTo x m).testBit (14 - m) then redTo x m ^^^ (285 * 2 ^ (6 - m)) else redTo x m
def bmulN (a b : Nat) : Nat := redTo (prodTo a b 8) 7

theorem xx (a b c d : Nat) : (a ^^^ b) ^^^ (c ^^^ d) = (a ^^^ c) ^^^ (b ^^^ d) := by
  rw [Nat.xor_assoc, Nat.xor_assoc, ← Nat.xor_assoc b c d, Nat.xor_comm b c, Nat.xor_assoc c b d]
def tm (c : Bool) (v : Nat) : Nat := if c then v else 0
theorem tm_xor (c d : Bool) (v : Nat) : tm (c ^^ d) v = tm c v ^^^ tm d v := by cases c <;> cases d <;> simp [tm]
theorem line_tm (a b i x j : Nat) : lineTo a b i x (j + 1) = lineTo a b i x j ^^^ tm (a.testBit i && b.testBit j) (2 ^ (i + j)) := by
  rw [lineTo]; cases h : (a.testBit i && b.testBit j) <;> simp [tm]
theorem red_tm (x m : Nat) : redTo x (m + 1) = redTo x m ^^^ tm ((redTo x m).testBit (14 - m)) (285 * 2 ^ (6 - m)) := by
  rw [redTo]; cases h : (redTo x m).testBit (14 - m) <;> simp [tm]
theorem line_addR (a b c i x y : Nat) (j : Nat) : lineTo a (b ^^^ c) i (x ^^^ y) j = lineTo a b i x j ^^^ lineTo a c i y j := by
  induction j with
  | zero => rfl
  | succ j ih => rw [line_tm, line_tm, line_tm, ih, Nat.testBit_xor, Bool.and_xor_distrib_left, tm_xor, xx]
theorem line_addL (a b c i x y : Nat) (j : Nat) : lineTo (a ^^^ b) c i (x ^^^ y) j = lineTo a c i x j ^^^ lineTo b c i y j := by
  induction j with
  | zero => rfl
  | succ j ih => rw [line_tm, line_tm, line_tm, ih, Nat.testBit_xor, Bool.and_xor_distrib_right, tm_xor, xx]
theorem prod_addR (a b c : Nat) (i : Nat) : prodTo a (b ^^^ c) i = prodTo a b i ^^^ prodTo a c i := by
  induction i with
  | zero => simp [prodTo]
  | succ i ih => rw [prodTo, prodTo, prodTo, ih, line_addR]
theorem prod_addL (a b c : Nat) (i : Nat) : prodTo (a ^^^ b) c i = prodTo a c i ^^^ prodTo b c i := by
  induction i with
  | zero => simp [prodTo]
  | succ i ih => rw [prodTo, prodTo, prodTo, ih, line_addL]
theorem red_add (x y : Nat) (m : Nat) : redTo (x ^^^ y) m = redTo x m ^^^ redTo y m := by
  induction m with
  | zero => rfl
  | succ m ih => rw [red_tm, red_tm, red_tm, ih, Nat.testBit_xor, tm_xor, xx]
def bmul (a b : UInt8) : UInt8 := UInt8.ofNat (bmulN a.toNat b.toNat)
theorem ofNat_xor (x y : Nat) : UInt8.ofNat (x ^^^ y) = UInt8.ofNat x ^^^ UInt8.ofNat y := by
  apply UInt8.toNat_inj.1
  rw [UInt8.toNat_xor, UInt8.toNat_ofNat', UInt8.toNat_ofNat', UInt8.toNat_ofNat']
  rw [show (2 : Nat) ^ 8 = 2 ^ 8 from rfl, Nat.xor_mod_two_pow]
theorem bmul_addR (a : UInt8) : Add fun b => bmul a b := fun x y => by
  show bmul a (x ^^^ y) = bmul a x ^^^ bmul a y
  unfold bmul bmulN
  rw [UInt8.toNat_xor, prod_addR, red_add, ofNat_xor]
theorem bmul_addL (b : UInt8) : Add fun a => bmul a b := fun x y => by
  show bmul (x ^^^ y) b = bmul x b ^^^ bmul y b
  unfold bmul bmulN
  rw [UInt8.toNat_xor, prod_addL, red_add, ofNat_xor]
theorem bmul_basis : ∀ i : Nat, i < 8 → ∀ j : Nat, j < 8 → bmul (UInt8.ofNat (2 ^ i)) (UInt8.ofNat (2 ^ j)) = mul (UInt8.ofNat (2 ^ i)) (UInt8.ofNat (2 ^ j)) := by decide +kernel
theorem bmul_mul (a b : UInt8) : bmul a b = mul a b :=
  Add.ext' (bmul_addL b) (addL b) (fun i hi => Add.ext' (bmul_addR (UInt8.ofNat (2 ^ i))) (addR (UInt8.ofNat (2 ^ i))) (fun j hj => bmul_basis i hi j hj) b) a
theorem line_lt {a b i x : Nat} (hi : i < 8) (hx : x < 32768) : ∀ j, j ≤ 8 → lineTo a b i x j < 32768
  | 0, _ => hx
  | j + 1, hj => by
    rw [line_tm]
    have h := line_lt (b := b) (a := a) hi hx j (by omega)
    refine Nat.xor_lt_two_pow (n := 15) h ?_
    unfold tm
    split
    · exact Nat.pow_lt_pow_right (by omega) (by omega)
    · omega
theorem prod_lt (a b : Nat) : ∀ i, i ≤ 8 → prodTo a b i < 32768
  | 0, _ => by simp [prodTo]
  | i + 1, hi => line_lt (by omega) (prod_lt a b i (by omega)) 8 (Nat.le_refl _)
theorem red_lt {x : Nat} (hx : x < 32768) : ∀ m, m ≤ 7 → redTo x m < 32768
  | 0, _ => hx
  | m + 1, hm => by
    rw [red_tm]
    refine Nat.xor_lt_two_pow (n := 15) (red_lt hx m (by omega)) ?_
    unfold tm
    split
    · have : 2 ^ (6 - m) ≤ 2 ^ 6 := Nat.pow_le_pow_right (by omega) (by omega)
      omega
    · omega
theorem bmul_nat (a b : UInt8) : bmulN a.toNat b.toNat % 256 = (mul a b).toNat := by
  rw [← bmul_mul]; unfold bmul; rw [UInt8.toNat_ofNat']
end Go.Proofs.Ytpjopdemhdeelaa.Gf
