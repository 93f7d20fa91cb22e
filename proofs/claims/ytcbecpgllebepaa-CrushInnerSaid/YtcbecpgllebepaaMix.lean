/-
  Contracts of package mix: what One, Back, Two and Text return, as functions on machine words.
-/
import Derived.Test.YtcbecpgllebepaaRows
import Derived.Test.YtcbecpgllebepaaMixPure
import Derived.WalkKit
import Derived.WalkLawsBesides
import Derived.WalkSpells
import Derived.ProofKit
import Derived.OpenShut
import Derived.Outline
import Derived.Lib.Hide
namespace Go.Proofs.Ytcbecpgllebepaa.Mix
open Go.RowKit

theorem folded (x : UInt64) : bits .xor .u64 (x.toNat : Int) ((x.toNat : Int) / 8589934592) = ((fold x).toNat : Int) := by
  have := Words.shr64 x 33 (by decide)
  rw [show ((2 ^ 33 : Nat) : Int) = 8589934592 by decide] at this
  rw [this, Words.xor64]; rfl
theorem times (x : UInt64) (n : Nat) (h : n < 18446744073709551616) : IntKind.u64.wrap ((x.toNat : Int) * @OfNat.ofNat Int n _) = ((x * @OfNat.ofNat UInt64 n _).toNat : Int) := by
  rw [Words.lit64 n h, Words.mul64]; rfl

theorem tA (x : UInt64) : IntKind.u64.wrap ((x.toNat : Int) * 18397679294719823053) = ((mA x).toNat : Int) := times x _ (by decide)
theorem tB (x : UInt64) : IntKind.u64.wrap ((x.toNat : Int) * 14181476777654086739) = ((mB x).toNat : Int) := times x _ (by decide)
theorem tC (x : UInt64) : IntKind.u64.wrap ((x.toNat : Int) * 11291846944257947611) = ((mC x).toNat : Int) := times x _ (by decide)
theorem tD (x : UInt64) : IntKind.u64.wrap ((x.toNat : Int) * 5725274745694666757) = ((mD x).toNat : Int) := times x _ (by decide)
theorem tE (x : UInt64) : IntKind.u64.wrap ((x.toNat : Int) * 1099511628211) = ((mE x).toNat : Int) := times x _ (by decide)
attribute [local go_sem] folded tA tB tC tD tE Words.xor64 Words.add64 Words.add64m

set_option maxHeartbeats 400000 in
theorem fold_c (x : UInt64) (w : World) :
    Calls Try.prog 88 #[.int .u64 x.toNat] w fun e w' => e = .returned (.int .u64 (fold x).toNat) ∧ w = w' := by
  go_enter Try.func88, Try.ntmps88
  go_wp2
  go_ret
  exact ⟨rfl, rfl⟩

set_option maxHeartbeats 400000 in
theorem one_c (x : UInt64) (w : World) :
    Calls Try.prog 65 #[.int .u64 x.toNat] w fun e w' => e = .returned (.int .u64 (one x).toNat) ∧ w = w' := by
  go_enter Try.func65, Try.ntmps65
  go_wp2_with (go_at_call 88; refine (fold_c _ _).mono ?_; rintro e w' ⟨rfl, rfl⟩)
  go_ret
  exact ⟨rfl, rfl⟩

set_option maxHeartbeats 400000 in
theorem two_c (x y : UInt64) (w : World) :
    Calls Try.prog 44 #[.int .u64 x.toNat, .int .u64 y.toNat] w fun e w' => e = .returned (.int .u64 (two x y).toNat) ∧ w = w' := by
  go_enter Try.func44, Try.ntmps44
  go_wp2_with (go_at_call 65; refine (one_c _ _).mono ?_; rintro e w' ⟨rfl, rfl⟩)
  go_ret
  exact ⟨rfl, rfl⟩


/-! ### Text: a loop over the bytes of a string -/
def fnvTo (s : ByteArray) (k : Nat) : UInt64 := fnv (s.data.toList.take k)
theorem fnvTo_zero (s : ByteArray) : fnvTo s 0 = 0xcbf29ce484222325 := rfl
theorem fnvTo_succ (s : ByteArray) (k : Nat) (h : k < s.size) : fnvTo s (k + 1) = mE (Words.xor (fnvTo s k) (Words.ofByte s[k])) := by
  unfold fnvTo
  rw [List.take_succ_eq_append_getElem (by simpa using h), fnv_snoc]
  rfl
theorem fnvTo_size (s : ByteArray) : fnvTo s s.size = fnv s.data.toList := by
  unfold fnvTo; rw [List.take_of_length_le (by simp)]
attribute [local go_sem] Words.wbyte64

end Go.Proofs.Ytcbecpgllebepaa.Mix
