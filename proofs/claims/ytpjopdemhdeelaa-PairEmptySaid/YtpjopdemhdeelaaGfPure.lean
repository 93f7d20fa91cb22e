/-
  The field of 256 elements on bytes: sums are exclusive ors, products are reduced by X^8 + X^4 + X^3 + X^2 + 1.
-/
import Derived.Test.YtpjopdemhdeelaaWords
namespace Go.Proofs.Ytpjopdemhdeelaa.Gf
set_option linter.unusedVariables false

theorem all8 {P : UInt8 → Prop} (h : ∀ n : Nat, n < 256 → P (UInt8.ofNat n)) (x : UInt8) : P x := by
  have := h x.toNat x.toNat_lt
  rwa [UInt8.ofNat_toNat] at this

/-- Times X. -/
def xt (a : UInt8) : UInt8 := (a <<< 1) ^^^ (if 128 ≤ a.toNat then 29 else 0)
def sel (c : Bool) (v : UInt8) : UInt8 := if c then v else 0
def bit (a : UInt8) (i : Nat) : Bool := a.toNat.testBit i
def mul (a b : UInt8) : UInt8 :=
  sel (bit b 0) a ^^^ (sel (bit b 1) (xt a) ^^^ (sel (bit b 2) (xt (xt a)) ^^^ (sel (bit b 3) (xt (xt (xt a))) ^^^ (sel (bit b 4) (xt (xt (xt (xt a)))) ^^^
  (sel (bit b 5) (xt (xt (xt (xt (xt a))))) ^^^ (sel (bit b 6) (xt (xt (xt (xt (xt (xt a)))))) ^^^ sel (bit b 7) (xt (xt (xt (xt (xt (xt (xt a)))))))))))))

theorem xor_swap (a b c d : UInt8) : (a ^^^ b) ^^^ (c ^^^ d) = (a ^^^ c) ^^^ (b ^^^ d) := by
  rw [UInt8.xor_assoc, UInt8.xor_assoc, ← UInt8.xor_assoc b c d, UInt8.xor_comm b c, UInt8.xor_assoc c b d]
theorem swap_cong {a b A B R : UInt8} (h : R = A ^^^ B) : (a ^^^ b) ^^^ R = (a ^^^ A) ^^^ (b ^^^ B) := by rw [h, xor_swap]
theorem sel_add (c d : Bool) (v : UInt8) : sel (c ^^ d) v = sel c v ^^^ sel d v := by
  cases c <;> cases d <;> simp [sel]
theorem sel_xor (c : Bool) (u v : UInt8) : sel c (u ^^^ v) = sel c u ^^^ sel c v := by
  cases c <;> simp [sel]
theorem bit_add (a b : UInt8) (i : Nat) : bit (a ^^^ b) i = (bit a i ^^ bit b i) := by
  unfold bit; rw [UInt8.toNat_xor, Nat.testBit_xor]
theorem top_bit : ∀ n : Nat, n < 256 → (decide (128 ≤ (UInt8.ofNat n).toNat) = bit (UInt8.ofNat n) 7) := by decide +kernel
theorem xt_eq (a : UInt8) : xt a = (a <<< 1) ^^^ sel (bit a 7) 29 := by
  have h : decide (128 ≤ a.toNat) = bit a 7 := all8 (P := fun a => decide (128 ≤ a.toNat) = bit a 7) top_bit a
  unfold xt sel
  rw [← h]
  by_cases h2 : 128 ≤ a.toNat <;> simp [h2]
theorem shl_add (a b : UInt8) : (a ^^^ b) <<< 1 = (a <<< 1) ^^^ (b <<< 1) := by
  apply UInt8.eq_of_toBitVec_eq
  simp only [UInt8.toBitVec_xor, UInt8.toBitVec_shiftLeft]
  apply BitVec.eq_of_getLsbD_eq
  intro i hi
  by_cases h0 : i = 0 <;> simp [h0, hi]
theorem xt_add (a b : UInt8) : xt (a ^^^ b) = xt a ^^^ xt b := by
  rw [xt_eq, xt_eq, xt_eq, shl_add, bit_add, sel_add, xor_swap]
theorem mul_add (a b c : UInt8) : mul a (b ^^^ c) = mul a b ^^^ mul a c := by
  unfold mul
  simp only [bit_add, sel_add]
  exact swap_cong (swap_cong (swap_cong (swap_cong (swap_cong (swap_cong (swap_cong rfl))))))
theorem add_mul (a b c : UInt8) : mul (a ^^^ b) c = mul a c ^^^ mul b c := by
  unfold mul
  simp only [xt_add, sel_xor]
  exact swap_cong (swap_cong (swap_cong (swap_cong (swap_cong (swap_cong (swap_cong rfl))))))

theorem split8 : ∀ n : Nat, n < 256 → UInt8.ofNat n = sel (bit (UInt8.ofNat n) 0) 1 ^^^ (sel (bit (UInt8.ofNat n) 1) 2 ^^^ (sel (bit (UInt8.ofNat n) 2) 4 ^^^ (sel (bit (UInt8.ofNat n) 3) 8 ^^^ (sel (bit (UInt8.ofNat n) 4) 16 ^^^ (sel (bit (UInt8.ofNat n) 5) 32 ^^^ (sel (bit (UInt8.ofNat n) 6) 64 ^^^ sel (bit (UInt8.ofNat n) 7) 128)))))) := by decide +kernel
theorem split (x : UInt8) : x = sel (bit x 0) 1 ^^^ (sel (bit x 1) 2 ^^^ (sel (bit x 2) 4 ^^^ (sel (bit x 3) 8 ^^^ (sel (bit x 4) 16 ^^^ (sel (bit x 5) 32 ^^^ (sel (bit x 6) 64 ^^^ sel (bit x 7) 128)))))) :=
  all8 (P := fun x => x = sel (bit x 0) 1 ^^^ (sel (bit x 1) 2 ^^^ (sel (bit x 2) 4 ^^^ (sel (bit x 3) 8 ^^^ (sel (bit x 4) 16 ^^^ (sel (bit x 5) 32 ^^^ (sel (bit x 6) 64 ^^^ sel (bit x 7) 128))))))) split8 x

def Add (f : UInt8 → UInt8) : Prop := ∀ x y, f (x ^^^ y) = f x ^^^ f y
theorem Add.zero {f : UInt8 → UInt8} (h : Add f) : f 0 = 0 := by
  have := h 0 0
  rw [UInt8.xor_self, UInt8.xor_self] at this
  exact this
theorem Add.sel {f : UInt8 → UInt8} (h : Add f) (c : Bool) (v : UInt8) : f (sel c v) = sel c (f v) := by
  cases c
  · exact h.zero
  · rfl
/-- Two additive functions that agree at the eight powers of X agree. -/
theorem Add.ext {f g : UInt8 → UInt8} (hf : Add f) (hg : Add g) (h0 : f 1 = g 1) (h1 : f 2 = g 2) (h2 : f 4 = g 4) (h3 : f 8 = g 8) (h4 : f 16 = g 16) (h5 : f 32 = g 32) (h6 : f 64 = g 64) (h7 : f 128 = g 128) (x : UInt8) : f x = g x := by
  rw [split x]
  simp only [hf _ _, hg _ _, hf.sel, hg.sel, h0, h1, h2, h3, h4, h5, h6, h7]
theorem Add.ext' {f g : UInt8 → UInt8} (hf : Add f) (hg : Add g) (h : ∀ i : Nat, i < 8 → f (UInt8.ofNat (2 ^ i)) = g (UInt8.ofNat (2 ^ i))) (x : UInt8) : f x = g x :=
  hf.ext hg (h 0 (by decide)) (h 1 (by decide)) (h 2 (by decide)) (h 3 (by decide)) (h 4 (by decide)) (h 5 (by decide)) (h 6 (by decide)) (h 7 (by decide)) x
theorem addL (c : UInt8) : Add fun x => mul x c := fun x y => add_mul x y c
theorem addR (c : UInt8) : Add fun x => mul c x := fun x y => mul_add c x y
theorem Add.comp {f g : UInt8 → UInt8} (hf : Add f) (hg : Add g) : Add fun x => f (g x) := fun x y => by show f (g (x ^^^ y)) = f (g x) ^^^ f (g y); rw [hg, hf]

theorem comm_basis : ∀ i : Nat, i < 8 → ∀ j : Nat, j < 8 → mul (UInt8.ofNat (2 ^ i)) (UInt8.ofNat (2 ^ j)) = mul (UInt8.ofNat (2 ^ j)) (UInt8.ofNat (2 ^ i)) := by decide +kernel
theorem mul_comm (a b : UInt8) : mul a b = mul b a :=
  Add.ext' (addL b) (addR b) (fun i hi => Add.ext' (addR (UInt8.ofNat (2 ^ i))) (addL (UInt8.ofNat (2 ^ i))) (fun j hj => comm_basis i hi j hj) b) a
theorem assoc_basis : ∀ i : Nat, i < 8 → ∀ j : Nat, j < 8 → ∀ k : Nat, k < 8 → mul (mul (UInt8.ofNat (2 ^ i)) (UInt8.ofNat (2 ^ j))) (UInt8.ofNat (2 ^ k)) = mul (UInt8.ofNat (2 ^ i)) (mul (UInt8.ofNat (2 ^ j)) (UInt8.ofNat (2 ^ k))) := by decide +kernel
theorem mul_assoc (a b c : UInt8) : mul (mul a b) c = mul a (mul b c) :=
  Add.ext' (f := fun a => mul (mul a b) c) (g := fun a => mul a (mul b c)) ((addL c).comp (addL b)) (addL _) (fun i hi =>
    Add.ext' (f := fun b => mul (mul (UInt8.ofNat (2 ^ i)) b) c) (g := fun b => mul (UInt8.ofNat (2 ^ i)) (mul b c)) ((addL c).comp (addR _)) ((addR _).comp (addL c)) (fun j hj =>
      Add.ext' (f := fun c => mul (mul (UInt8.ofNat (2 ^ i)) (UInt8.ofNat (2 ^ j))) c) (g := fun c => mul (UInt8.ofNat (2 ^ i)) (mul (UInt8.ofNat (2 ^ j)) c)) (addR _) ((addR _).comp (addR _)) (fun k hk => assoc_basis i hi j hj k hk) c) b) a
theorem mul_one_basis : ∀ i : Nat, i < 8 → mul (UInt8.ofNat (2 ^ i)) 1 = UInt8.ofNat (2 ^ i) := by decide +kernel
theorem mul_one (a : UInt8) : mul a 1 = a := Add.ext' (g := fun x => x) (addL 1) (fun x y => rfl) mul_one_basis a
theorem one_mul (a : UInt8) : mul 1 a = a := by rw [mul_comm, mul_one]
theorem mul_zero (a : UInt8) : mul a 0 = 0 := (addR a).zero
theorem zero_mul (a : UInt8) : mul 0 a = 0 := (addL a).zero

def sq (a : UInt8) : UInt8 := mul a a
/-- The 254th power. -/
def inv (a : UInt8) : UInt8 :=
  let a2 := sq a; let a4 := sq a2; let a8 := sq a4; let a16 := sq a8; let a32 := sq a16; let a64 := sq a32; let a128 := sq a64
  mul a2 (mul a4 (mul a8 (mul a16 (mul a32 (mul a64 a128)))))
theorem inv_all : ∀ n : Nat, n < 256 → (UInt8.ofNat n = 0 ∨ mul (UInt8.ofNat n) (inv (UInt8.ofNat n)) = 1) := by decide +kernel
theorem mul_inv {a : UInt8} (h : a ≠ 0) : mul a (inv a) = 1 := by
  rcases all8 (P := fun a => a = 0 ∨ mul a (inv a) = 1) inv_all a with h0 | h0
  · exact absurd h0 h
  · exact h0
theorem no_zero {a b : UInt8} (h : mul a b = 0) : a = 0 ∨ b = 0 := by
  by_cases ha : a = 0
  · exact .inl ha
  · right
    have h1 : mul (inv a) (mul a b) = b := by rw [← mul_assoc, mul_comm (inv a), mul_inv ha, one_mul]
    rw [h, mul_zero] at h1
    exact h1.symm
theorem mul_cancel {a b c : UInt8} (ha : a ≠ 0) (h : mul a b = mul a c) : b = c := by
  have h1 : mul (inv a) (mul a b) = mul (inv a) (mul a c) := by rw [h]
  rwa [← mul_assoc, ← mul_assoc, mul_comm (inv a), mul_inv ha, one_mul, one_mul] at h1

/-- Powers. -/
def pow (a : UInt8) : Nat → UInt8
  | 0 => 1
  | n + 1 => mul (pow a n) a
theorem pow_add (a : UInt8) (n m : Nat) : pow a (n + m) = mul (pow a n) (pow a m) := by
  induction m with
  | zero => rw [Nat.add_zero, pow, mul_one]
  | succ m ih => rw [← Nat.add_assoc, pow, pow, ih, mul_assoc]
/-- Times X, n times: the powers of 2. -/
def xts : Nat → UInt8
  | 0 => 1
  | n + 1 => mul (xts n) 2
theorem xts_pow (n : Nat) : xts n = pow 2 n := by
  induction n with
  | zero => rfl
  | succ n ih => rw [xts, pow, ih]
theorem one_pow (n : Nat) : pow 1 n = 1 := by
  induction n with
  | zero => rfl
  | succ n ih => rw [pow, ih, mul_one]
theorem pow_mul (a : UInt8) (n m : Nat) : pow a (n * m) = pow (pow a n) m := by
  induction m with
  | zero => rfl
  | succ m ih => rw [Nat.mul_succ, pow_add, ih, pow]
theorem mul_pow (a b : UInt8) (n : Nat) : pow (mul a b) n = mul (pow a n) (pow b n) := by
  induction n with
  | zero => rw [pow, pow, pow, mul_one]
  | succ n ih => rw [pow, pow, pow, ih, mul_assoc, mul_assoc, ← mul_assoc (pow b n) a b, mul_comm (pow b n) a, mul_assoc a (pow b n) b]
/-- By repeated squaring, the 255th power. -/
def p255 (a : UInt8) : UInt8 := mul a (inv a)
theorem sq_pow (a : UInt8) : sq a = pow a 2 := by unfold sq pow pow pow; rw [one_mul]
theorem inv_pow (a : UInt8) : inv a = pow a 254 := by
  unfold inv
  simp only [sq_pow, ← pow_mul, ← pow_add]
theorem pow_255 {a : UInt8} (h : a ≠ 0) : pow a 255 = 1 := by
  rw [show 255 = 254 + 1 from rfl, pow, ← inv_pow, mul_comm, mul_inv h]
theorem pow_round {a : UInt8} (h : a ≠ 0) (n : Nat) : pow a (n + 255) = pow a n := by rw [pow_add, pow_255 h, mul_one]
theorem pow_mod {a : UInt8} (h : a ≠ 0) (n : Nat) : pow a (n % 255) = pow a n := by
  conv => rhs; rw [← Nat.div_add_mod n 255, pow_add, pow_mul, pow_255 h, one_pow, one_mul]
theorem pow_zero_base {n : Nat} (h : 0 < n) : pow 0 n = 0 := by
  cases n with
  | zero => omega
  | succ n => rw [pow, mul_zero]
/-- The logarithm: the place of a byte among the powers of 2. -/
def logs : List UInt8 := (List.range 255).map xts
def log (a : UInt8) : Nat := logs.idxOf a
theorem log_all : ∀ n : Nat, n < 256 → (UInt8.ofNat n = 0 ∨ (log (UInt8.ofNat n) < 255 ∧ xts (log (UInt8.ofNat n)) = UInt8.ofNat n)) := by decide +kernel
theorem log_spec {a : UInt8} (h : a ≠ 0) : log a < 255 ∧ pow 2 (log a) = a := by
  rcases all8 (P := fun a => a = 0 ∨ (log a < 255 ∧ xts (log a) = a)) log_all a with h0 | h0
  · exact absurd h0 h
  · rw [← xts_pow]; exact h0
theorem log_xts : ∀ n : Nat, n < 255 → log (xts n) = n := by decide +kernel
theorem log_pow {n : Nat} (h : n < 255) : log (pow 2 n) = n := by rw [← xts_pow]; exact log_xts n h
theorem pow2_inj {n m : Nat} (hn : n < 255) (hm : m < 255) (h : pow 2 n = pow 2 m) : n = m := by
  rw [← log_pow hn, h, log_pow hm]
theorem mul_ne_zero {a b : UInt8} (ha : a ≠ 0) (hb : b ≠ 0) : mul a b ≠ 0 := fun h => by
  rcases no_zero h with h0 | h0
  · exact ha h0
  · exact hb h0
theorem log_mul {a b : UInt8} (ha : a ≠ 0) (hb : b ≠ 0) : log (mul a b) = (log a + log b) % 255 := by
  obtain ⟨ha1, ha2⟩ := log_spec ha
  obtain ⟨hb1, hb2⟩ := log_spec hb
  have h2 : (2 : UInt8) ≠ 0 := by decide
  have h : pow 2 ((log a + log b) % 255) = mul a b := by rw [pow_mod h2, pow_add, ha2, hb2]
  rw [← h, log_pow (Nat.mod_lt _ (by omega))]
end Go.Proofs.Ytpjopdemhdeelaa.Gf
