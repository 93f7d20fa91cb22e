/-
  The contract of (*Int).Xor.
-/
import Derived.Test.YtjaacohnnplmdaaBigApp
import Derived.Deep.QuietTactic
import Derived.BigQuiet
namespace Go.Proofs.Ytjaacohnnplmdaa.Big
set_option linter.unusedVariables false
open Go.RowKit

/-- A list that is turned into another one place by place: the first k of out, the rest of base. -/
def part (out base : List UInt32) (k : Nat) : List UInt32 := out.take k ++ base.drop k
theorem part_zero (out base : List UInt32) : part out base 0 = base := by simp [part]
theorem part_len {out base : List UInt32} (h : out.length = base.length) (k : Nat) : (part out base k).length = base.length := by simp [part]; omega
theorem part_at {out base : List UInt32} (h : out.length = base.length) {k : Nat} (hk : k < base.length) : (part out base k)[k]? = base[k]? := by
  unfold part
  rw [List.getElem?_append_right (by simp; omega), List.length_take, Nat.min_eq_left (by omega), Nat.sub_self, List.getElem?_drop, Nat.add_zero]
theorem part_set {out base : List UInt32} (h : out.length = base.length) {k : Nat} {u : UInt32} (hu : out[k]? = some u) : (part out base k).set k u = part out base (k + 1) := by
  have hk : k < out.length := (List.getElem?_eq_some_iff.1 hu).1
  have hu' : out[k] = u := (List.getElem?_eq_some_iff.1 hu).2
  unfold part
  rw [List.set_append_right _ _ (by simp; omega), List.length_take, Nat.min_eq_left (by omega), Nat.sub_self]
  rw [List.drop_eq_getElem_cons (l := base) (i := k) (by omega), List.set_cons_zero, List.take_succ_eq_append_getElem hk, hu']
  simp

def xor32 (a b : UInt32) : UInt32 := a ^^^ b
theorem xored (a b : UInt32) : bits .xor .u32 (a.toNat : Int) (b.toNat : Int) = ((xor32 a b).toNat : Int) := by
  rw [u32_xor_nat _ _ (Words.lt32 a) (Words.lt32 b)]; unfold xor32; rw [UInt32.toNat_xor]
def xs : List UInt32 → List UInt32 → List UInt32
  | a, [] => a
  | [], _ :: _ => []
  | x :: a, y :: b => xor32 x y :: xs a b
theorem xs_len : ∀ a b : List UInt32, (xs a b).length = a.length
  | [], [] => rfl
  | _ :: _, [] => rfl
  | [], _ :: _ => rfl
  | x :: a, y :: b => by simp [xs, xs_len a b]
theorem xs_at : ∀ (a b : List UInt32) (k : Nat) (x y : UInt32), a[k]? = some x → b[k]? = some y → (xs a b)[k]? = some (xor32 x y)
  | [], _, k, x, y, h, _ => by simp at h
  | _ :: _, [], k, x, y, _, h => by simp at h
  | u :: a, v :: b, k, x, y, h, h2 => by
    cases k with
    | zero => simp at h h2; subst h h2; rfl
    | succ k => simpa [xs] using xs_at a b k x y (by simpa using h) (by simpa using h2)
theorem xs_rest : ∀ (a b : List UInt32) (k : Nat), b.length ≤ k → (xs a b).drop k = a.drop k
  | a, [], k, _ => by cases a <;> rfl
  | [], _ :: _, k, _ => by simp [xs]
  | x :: a, y :: b, k, h => by
    cases k with
    | zero => simp at h
    | succ k => simpa [xs] using xs_rest a b k (by simpa using h)
theorem xs_part (a b : List UInt32) : part (xs a b) a b.length = xs a b := by
  unfold part; rw [← xs_rest a b b.length (Nat.le_refl _), List.take_append_drop]
theorem xor_split (x y A B : Nat) (hx : x < 4294967296) (hy : y < 4294967296) : (x + 4294967296 * A) ^^^ (y + 4294967296 * B) = (x ^^^ y) + 4294967296 * (A ^^^ B) := by
  have e : (4294967296 : Nat) = 2 ^ 32 := by decide
  rw [e] at *
  have hxy : x ^^^ y < 2 ^ 32 := Nat.xor_lt_two_pow hx hy
  rw [Nat.add_comm x, Nat.add_comm y, Nat.add_comm (x ^^^ y)]
  apply Nat.eq_of_testBit_eq
  intro i
  rw [Nat.testBit_xor, Nat.testBit_two_pow_mul_add _ hx, Nat.testBit_two_pow_mul_add _ hy, Nat.testBit_two_pow_mul_add _ hxy]
  split
  · rw [Nat.testBit_xor]
  · rw [Nat.testBit_xor]
theorem xs_val : ∀ a b : List UInt32, b.length ≤ a.length → val (xs a b) = val a ^^^ val b
  | [], [], _ => rfl
  | x :: a, [], _ => by simp [xs, val]
  | [], _ :: _, h => by simp at h
  | x :: a, y :: b, h => by
    rw [xs, val, xs_val a b (by simpa using h), val, val, xor_split _ _ _ _ x.toNat_lt y.toNat_lt]
    unfold xor32; rw [UInt32.toNat_xor]
attribute [local go_sem] xored

def RoundXor (W : World) (G : Nat) (l : List UInt32) (wr : World) : Prop := Below W.heap.size W wr ∧ Row wr G l

theorem digs_mono {a b : Nat} (h : a ≤ b) : (digs a).length ≤ (digs b).length := by
  have h1 := val_lt (digs b)
  rw [val_digs] at h1
  exact digs_len (by omega)

end Go.Proofs.Ytjaacohnnplmdaa.Big
