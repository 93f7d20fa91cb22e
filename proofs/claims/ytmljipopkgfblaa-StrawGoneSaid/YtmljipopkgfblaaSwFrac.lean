/-
  Powers of draws as rows of digits, pure: the digits of a number, its comparison digit by digit, and one more factor.
-/
import Derived.Test.YtmljipopkgfblaaSwPure
namespace Go.Proofs.Ytmljipopkgfblaa.Straw
set_option linter.unusedVariables false
set_option linter.unusedSimpArgs false

/-- The digit at place i of 101 (the first stands before the point). -/
def dg (X i : Nat) : Nat := X / 65536 ^ (100 - i) % 65536
theorem dg_lt (X i : Nat) : dg X i < 65536 := Nat.mod_lt _ (by omega)
/-- x to the n, with a hundred digits behind the point. -/
def pw (x n : Nat) : Nat := x ^ n * 65536 ^ (100 - n)
theorem pw_lt {x n : Nat} (hx : x ≤ 65536) (hn : n ≤ 100) : pw x n < 65536 ^ 101 := by
  unfold pw
  have h1 : x ^ n * 65536 ^ (100 - n) ≤ 65536 ^ n * 65536 ^ (100 - n) := Nat.mul_le_mul_right _ (Nat.pow_le_pow_left hx n)
  rw [← Nat.pow_add, show n + (100 - n) = 100 by omega] at h1
  exact Nat.lt_of_le_of_lt h1 (Nat.pow_lt_pow_right (by omega) (by omega))
theorem head_dg {X i : Nat} (hi : i ≤ 100) : X / 65536 ^ (100 - i) = X / 65536 ^ (101 - i) * 65536 + dg X i := by
  unfold dg
  rw [show 101 - i = 100 - i + 1 by omega, Nat.pow_succ, ← Nat.div_div_eq_div_mul]
  have := Nat.div_add_mod (X / 65536 ^ (100 - i)) 65536
  omega
/-- Alike in the digits before the place i. -/
def Alike (X Y i : Nat) : Prop := X / 65536 ^ (101 - i) = Y / 65536 ^ (101 - i)
theorem alike_zero {X Y : Nat} (hX : X < 65536 ^ 101) (hY : Y < 65536 ^ 101) : Alike X Y 0 := by
  unfold Alike
  rw [Nat.div_eq_of_lt hX, Nat.div_eq_of_lt hY]
theorem alike_next {X Y i : Nat} (hi : i ≤ 100) (h : Alike X Y i) (hd : dg X i = dg Y i) : Alike X Y (i + 1) := by
  unfold Alike at *
  rw [show 101 - (i + 1) = 100 - i by omega, head_dg hi, head_dg hi, h, hd]
theorem alike_end {X Y : Nat} (h : Alike X Y 101) : X = Y := by
  unfold Alike at h; simpa using h
theorem alike_lt {X Y i : Nat} (hi : i ≤ 100) (h : Alike X Y i) (hd : dg X i < dg Y i) : X < Y := by
  unfold Alike at h
  have h1 := head_dg (X := X) hi
  have h2 := head_dg (X := Y) hi
  rw [h] at h1
  rcases Nat.lt_or_ge X Y with h3 | h3
  · exact h3
  · have := Nat.div_le_div_right (c := 65536 ^ (100 - i)) h3
    omega
/-- What is carried from behind the place i, of n digits, times x. -/
def carry (x n i : Nat) : Nat := x * (x ^ n % 65536 ^ (n - i)) / 65536 ^ (n - i)
theorem carry_start (x n : Nat) : carry x n n = 0 := by unfold carry; simp [Nat.mod_one]
theorem carry_lt {x n i : Nat} (hx : x ≤ 65536) : carry x n i ≤ 65536 := by
  unfold carry
  have hp : 0 < 65536 ^ (n - i) := Nat.pow_pos (by omega)
  refine Nat.div_le_of_le_mul ?_
  rw [Nat.mul_comm]
  exact Nat.mul_le_mul (Nat.le_of_lt (Nat.mod_lt _ hp)) hx
theorem dg_pw {x n i : Nat} (hn : n ≤ 100) (hi : i ≤ n) : dg (pw x n) i = x ^ n / 65536 ^ (n - i) % 65536 := by
  unfold dg pw
  rw [show 100 - i = (n - i) + (100 - n) by omega, Nat.pow_add, Nat.mul_div_mul_right _ _ (Nat.pow_pos (by omega))]
theorem dg_pw_far {x n i : Nat} (hn : n ≤ 100) (hi : n < i) (hi2 : i ≤ 100) : dg (pw x n) i = 0 := by
  unfold dg pw
  rw [show 100 - n = (100 - i) + (i - n - 1) + 1 by omega, Nat.pow_succ, Nat.pow_add, show x ^ n * (65536 ^ (100 - i) * 65536 ^ (i - n - 1) * 65536) = 65536 ^ (100 - i) * (x ^ n * 65536 ^ (i - n - 1) * 65536) by ac_rfl, Nat.mul_div_cancel_left _ (Nat.pow_pos (by omega)), Nat.mul_mod_left]
/-- The digit times x, and the carry from behind: what it leaves, what it carries on. -/
theorem carry_step {x n i : Nat} (hn : n ≤ 99) (hi : i ≤ n) :
    (carry x n i + dg (pw x n) i * x) % 65536 = dg (pw x (n + 1)) (i + 1) ∧ (i ≠ 0 → (carry x n i + dg (pw x n) i * x) / 65536 = carry x n (i - 1)) ∧ (i = 0 → x ^ n < 65536 ^ (n + 1) → (carry x n i + dg (pw x n) i * x) / 65536 = x ^ (n + 1) / 65536 ^ (n + 1)) := by
  rw [dg_pw (by omega) hi, dg_pw (by omega) (show i + 1 ≤ n + 1 by omega), show n + 1 - (i + 1) = n - i by omega]
  unfold carry
  generalize hm : n - i = m
  generalize hN : x ^ n = N
  have hp : 0 < 65536 ^ m := Nat.pow_pos (by omega)
  have e1 : x * (N % 65536 ^ (m + 1)) / 65536 ^ m = x * (N % 65536 ^ m) / 65536 ^ m + N / 65536 ^ m % 65536 * x := by
    have h : N % 65536 ^ (m + 1) = N % 65536 ^ m + 65536 ^ m * (N / 65536 ^ m % 65536) := by rw [Nat.pow_succ, Nat.mod_mul]
    rw [h, Nat.mul_add, show x * (65536 ^ m * (N / 65536 ^ m % 65536)) = 65536 ^ m * (N / 65536 ^ m % 65536 * x) by ac_rfl, Nat.add_mul_div_left _ _ hp]
  rw [← e1]
  refine ⟨?_, ?_, ?_⟩
  · rw [show x ^ (n + 1) = x * N by rw [Nat.pow_succ, hN, Nat.mul_comm]]
    have h := Nat.div_add_mod N (65536 ^ (m + 1))
    generalize hq : N / 65536 ^ (m + 1) = q at h
    generalize hr : N % 65536 ^ (m + 1) = r at h
    have e2 : x * N = x * r + 65536 ^ m * (x * q * 65536) := by rw [← h, Nat.pow_succ]; rw [Nat.mul_add, Nat.add_comm]; congr 1; ac_rfl
    rw [e2, Nat.add_mul_div_left _ _ hp, Nat.add_mul_mod_self_right]
  · intro h0
    rw [show n - (i - 1) = m + 1 by omega, Nat.div_div_eq_div_mul, Nat.pow_succ]
  · intro h0 hlt
    subst h0
    have : m = n := by omega
    subst this
    rw [Nat.mod_eq_of_lt hlt, Nat.div_div_eq_div_mul, ← Nat.pow_succ, show x ^ (m + 1) = x * N by rw [Nat.pow_succ, hN, Nat.mul_comm]]
theorem dg_pw_zero {x n : Nat} (hx : x ≤ 65536) (hn : n ≤ 100) : dg (pw x n) 0 = x ^ n / 65536 ^ n := by
  rw [dg_pw hn (Nat.zero_le _), Nat.sub_zero, Nat.mod_eq_of_lt]
  have h1 := Nat.pow_le_pow_left hx n
  have h2 : x ^ n / 65536 ^ n ≤ 1 := Nat.div_le_of_le_mul (by rw [Nat.mul_one]; exact h1)
  omega
theorem pow_small {x n : Nat} (hx : x ≤ 65536) : x ^ n < 65536 ^ (n + 1) := Nat.lt_of_le_of_lt (Nat.pow_le_pow_left hx n) (Nat.pow_lt_pow_right (by omega) (by omega))
/-- Which of two straws is longer, by their powers. -/
theorem pw_len {x y u v : Nat} (hu : u ≤ 100) (hv : v ≤ 100) : (pw y u < pw x v ↔ len y v u < len x u v) ∧ (pw y u = pw x v ↔ len y v u = len x u v) := by
  unfold pw len
  have hc : 0 < 65536 ^ (100 - u) * 65536 ^ (100 - v) := Nat.mul_pos (Nat.pow_pos (by omega)) (Nat.pow_pos (by omega))
  have e1 : y ^ u * 65536 ^ (100 - u) * 65536 ^ 100 = y ^ u * 65536 ^ v * (65536 ^ (100 - u) * 65536 ^ (100 - v)) := by
    rw [show (65536 : Nat) ^ 100 = 65536 ^ v * 65536 ^ (100 - v) by rw [← Nat.pow_add]; congr 1; omega]; ac_rfl
  have e2 : x ^ v * 65536 ^ (100 - v) * 65536 ^ 100 = x ^ v * 65536 ^ u * (65536 ^ (100 - u) * 65536 ^ (100 - v)) := by
    rw [show (65536 : Nat) ^ 100 = 65536 ^ u * 65536 ^ (100 - u) by rw [← Nat.pow_add]; congr 1; omega]; ac_rfl
  have hd : 0 < 65536 ^ 100 := Nat.pow_pos (by omega)
  constructor
  · rw [← Nat.mul_lt_mul_right hd, e1, e2, Nat.mul_lt_mul_right hc]
  · rw [← Nat.mul_left_inj (show (65536 ^ 100 : Nat) ≠ 0 by omega), e1, e2, Nat.mul_left_inj (by omega)]
end Go.Proofs.Ytmljipopkgfblaa.Straw
