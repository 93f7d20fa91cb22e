/-
  Package mix on machine words: One, Back, Two and Text as functions, and that One and Back undo each other.
-/
import Derived.Test.YtcbecpgllebepaaWords
namespace Go.Proofs.Ytcbecpgllebepaa.Mix

def fold (x : UInt64) : UInt64 := x ^^^ (x >>> 33)
def mA (x : UInt64) : UInt64 := x * 0xff51afd7ed558ccd
def mB (x : UInt64) : UInt64 := x * 0xc4ceb9fe1a85ec53
def mC (x : UInt64) : UInt64 := x * 0x9cb4b2f8129337db
def mD (x : UInt64) : UInt64 := x * 0x4f74430c22a54005
def mE (x : UInt64) : UInt64 := x * 0x100000001b3
def one (x : UInt64) : UInt64 := fold (mB (fold (mA (fold x))))
def back (x : UInt64) : UInt64 := fold (mD (fold (mC (fold x))))
def two (a b : UInt64) : UInt64 := one (Words.add (one a) b)
def step (s : UInt64) (c : UInt8) : UInt64 := mE (Words.xor s (Words.ofByte c))
def fnv (l : List UInt8) : UInt64 := l.foldl step 0xcbf29ce484222325
def text (l : List UInt8) : UInt64 := one (fnv l)

theorem fold_fold (x : UInt64) : fold (fold x) = x := by
  apply UInt64.eq_of_toBitVec_eq
  unfold fold
  simp only [UInt64.toBitVec_xor, UInt64.toBitVec_shiftRight]
  apply BitVec.eq_of_getLsbD_eq
  intro i hi
  have e : ((33 : UInt64).toBitVec % 64).toNat = 33 := by decide
  simp only [BitVec.getLsbD_xor, BitVec.ushiftRight_eq', e, BitVec.getLsbD_ushiftRight]
  have z : x.toBitVec.getLsbD (33 + (33 + i)) = false := BitVec.getLsbD_of_ge _ _ (by omega)
  rw [z]
  cases x.toBitVec.getLsbD i <;> cases x.toBitVec.getLsbD (33 + i) <;> rfl

theorem back_one (x : UInt64) : back (one x) = x := by
  unfold back one mA mB mC mD
  rw [fold_fold, UInt64.mul_assoc, show (0xc4ceb9fe1a85ec53 : UInt64) * 0x9cb4b2f8129337db = 1 by decide, UInt64.mul_one, fold_fold, UInt64.mul_assoc, show (0xff51afd7ed558ccd : UInt64) * 0x4f74430c22a54005 = 1 by decide, UInt64.mul_one, fold_fold]
theorem one_back (x : UInt64) : one (back x) = x := by
  unfold back one mA mB mC mD
  rw [fold_fold, UInt64.mul_assoc, show (0x4f74430c22a54005 : UInt64) * 0xff51afd7ed558ccd = 1 by decide, UInt64.mul_one, fold_fold, UInt64.mul_assoc, show (0x9cb4b2f8129337db : UInt64) * 0xc4ceb9fe1a85ec53 = 1 by decide, UInt64.mul_one, fold_fold]
theorem one_inj {x y : UInt64} (h : one x = one y) : x = y := by
  rw [← back_one x, h, back_one]
theorem two_left {a b c : UInt64} (h : two a b = two a c) : b = c := by
  have := one_inj h
  unfold Words.add at this
  simpa using this
theorem two_right {a b c : UInt64} (h : two a c = two b c) : a = b := by
  have := one_inj h
  unfold Words.add at this
  exact one_inj (by simpa using this)
theorem step_inj {s : UInt64} {c d : UInt8} (h : step s c = step s d) : c = d := by
  unfold step mE Words.xor Words.ofByte at h
  have h2 : (s ^^^ c.toUInt64) * 0x100000001b3 * 0xce965057aff6957b = (s ^^^ d.toUInt64) * 0x100000001b3 * 0xce965057aff6957b := by rw [h]
  rw [UInt64.mul_assoc, UInt64.mul_assoc, show (0x100000001b3 : UInt64) * 0xce965057aff6957b = 1 by decide, UInt64.mul_one, UInt64.mul_one] at h2
  have h3 : s ^^^ (s ^^^ c.toUInt64) = s ^^^ (s ^^^ d.toUInt64) := by rw [h2]
  rw [← UInt64.xor_assoc, ← UInt64.xor_assoc, UInt64.xor_self, UInt64.zero_xor, UInt64.zero_xor] at h3
  have h4 := congrArg UInt64.toNat h3
  simp at h4
  exact UInt8.toNat_inj.1 h4
theorem fnv_snoc (l : List UInt8) (c : UInt8) : fnv (l ++ [c]) = step (fnv l) c := by
  unfold fnv; rw [List.foldl_append]; rfl
theorem text_snoc {l : List UInt8} {c d : UInt8} (h : text (l ++ [c]) = text (l ++ [d])) : c = d := by
  have := one_inj h
  rw [fnv_snoc, fnv_snoc] at this
  exact step_inj this

theorem one_zero : one 0 = 0 := by decide
theorem one_one : one 1 = 0xb456bcfc34c2cb2c := by decide
theorem back_b4 : back 0xb456bcfc34c2cb2c = 1 := by decide
end Go.Proofs.Ytcbecpgllebepaa.Mix
