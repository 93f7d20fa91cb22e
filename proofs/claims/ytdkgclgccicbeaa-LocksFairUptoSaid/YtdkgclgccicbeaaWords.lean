/-
  Arithmetic of unsigned machine words as the walk spells it: each operation on the values of two words is the value of the word operation.
-/
import Derived.WalkKit
import Derived.Laws.Bits64
namespace Go.Proofs.Ytdkgclgccicbeaa.Words

/-- Word operations under names of their own: the walk's simp set rewrites the plain ones. -/
def xor (x y : UInt64) : UInt64 := x ^^^ y
def add (x y : UInt64) : UInt64 := x + y
def mul (x y : UInt64) : UInt64 := x * y
def ofByte (c : UInt8) : UInt64 := c.toUInt64

theorem lt64 (x : UInt64) : x.toNat < 18446744073709551616 := x.toNat_lt
theorem lt32 (x : UInt32) : x.toNat < 4294967296 := x.toNat_lt
theorem lt8 (x : UInt8) : x.toNat < 256 := x.toNat_lt

theorem of_wf64 {a : Int} (h : (Lit.int .u64 a).wf = true) : ∃ x : UInt64, a = (x.toNat : Int) := by
  have h' : 0 ≤ a ∧ a < 18446744073709551616 := by
    simp [Lit.wf, IntKind.min, IntKind.max, IntKind.bits, IntKind.signed] at h
    omega
  refine ⟨UInt64.ofNat a.toNat, ?_⟩
  rw [UInt64.toNat_ofNat']
  omega

theorem of_wf8 {a : Int} (h : (Lit.int .u8 a).wf = true) : ∃ x : UInt8, a = (x.toNat : Int) := by
  have h' : 0 ≤ a ∧ a < 256 := by
    simp [Lit.wf, IntKind.min, IntKind.max, IntKind.bits, IntKind.signed] at h
    omega
  refine ⟨UInt8.ofNat a.toNat, ?_⟩
  rw [UInt8.toNat_ofNat']
  omega

theorem ne_beq {x y : UInt64} (h : x ≠ y) : ((x.toNat : Int) == (y.toNat : Int)) = false := by
  rw [beq_eq_false_iff_ne]; intro e; exact h (UInt64.toNat_inj.1 (by omega))

theorem xor64 (x y : UInt64) : bits .xor .u64 (x.toNat : Int) (y.toNat : Int) = ((xor x y).toNat : Int) := by
  unfold xor; rw [bits_xor_u64_nat _ _ (lt64 x) (lt64 y), UInt64.toNat_xor]

theorem add64 (x y : UInt64) : IntKind.u64.wrap ((x.toNat : Int) + (y.toNat : Int)) = ((add x y).toNat : Int) := by
  unfold add; rw [IntKind.wrap_u64, UInt64.toNat_add]; omega

theorem mul64 (x y : UInt64) : IntKind.u64.wrap ((x.toNat : Int) * (y.toNat : Int)) = ((mul x y).toNat : Int) := by
  unfold mul; rw [IntKind.wrap_u64, UInt64.toNat_mul, Int.natCast_emod, Int.natCast_mul]; rfl

theorem add64m (x y : UInt64) : ((x.toNat : Int) + (y.toNat : Int)) % 18446744073709551616 = ((add x y).toNat : Int) := by
  rw [← IntKind.wrap_u64, add64]
theorem mul64m (x y : UInt64) : ((x.toNat : Int) * (y.toNat : Int)) % 18446744073709551616 = ((mul x y).toNat : Int) := by
  rw [← IntKind.wrap_u64, mul64]

theorem byte64 (c : UInt8) : (c.toNat : Int) = ((ofByte c).toNat : Int) := by
  unfold ofByte; simp
theorem wbyte64 (c : UInt8) : IntKind.u64.wrap (c.toNat : Int) = ((ofByte c).toNat : Int) := by
  rw [IntKind.wrap_u64, byte64]; have := lt64 (ofByte c); omega

theorem lit64 (n : Nat) (h : n < 18446744073709551616) : (@OfNat.ofNat Int n _) = (((@OfNat.ofNat UInt64 n _).toNat : Nat) : Int) := by
  show ((n : Nat) : Int) = ((UInt64.ofNat n).toNat : Int)
  rw [UInt64.toNat_ofNat', Nat.mod_eq_of_lt h]

theorem shr64 (x : UInt64) (k : Nat) (h : k < 64) : (x.toNat : Int) / (2 ^ k : Nat) = ((x >>> UInt64.ofNat k).toNat : Int) := by
  rw [UInt64.toNat_shiftRight, UInt64.toNat_ofNat', Nat.mod_eq_of_lt (by omega : k < 2 ^ 64), Nat.mod_eq_of_lt h, Nat.shiftRight_eq_div_pow, Int.natCast_ediv]

end Go.Proofs.Ytdkgclgccicbeaa.Words
