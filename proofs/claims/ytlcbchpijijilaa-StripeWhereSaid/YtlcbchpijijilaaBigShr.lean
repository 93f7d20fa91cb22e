/-
  The contracts of shiftRight and (*Int).Rsh by 33 places.
-/
import Derived.Test.YtlcbchpijijilaaBigRow
import Derived.RegionTactic
namespace Go.Proofs.Ytlcbchpijijilaa.Big
set_option linter.unusedVariables false
open Go.RowKit

def half (d : UInt32) : UInt32 := d >>> 1
def topb (e : UInt32) : UInt32 := e <<< 31
def or32 (a b : UInt32) : UInt32 := a ||| b
theorem half_nat (d : UInt32) : (half d).toNat = d.toNat / 2 := by
  unfold half
  rw [UInt32.toNat_shiftRight, show (1 : UInt32).toNat % 32 = 1 by decide, Nat.shiftRight_eq_div_pow]
theorem topb_nat (e : UInt32) : (topb e).toNat = e.toNat * 2147483648 % 4294967296 := by
  unfold topb
  rw [UInt32.toNat_shiftLeft, show (31 : UInt32).toNat % 32 = 31 by decide, Nat.shiftLeft_eq]
theorem halved (d : UInt32) : (d.toNat : Int) / 2 = ((half d).toNat : Int) := by rw [half_nat]; omega
theorem topped (e : UInt32) : (e.toNat : Int) * 2147483648 % 4294967296 = ((topb e).toNat : Int) := by rw [topb_nat]; omega
theorem ored (a b : UInt32) : bits .or .u32 (a.toNat : Int) (b.toNat : Int) = ((or32 a b).toNat : Int) := by
  rw [u32_or_nat _ _ (Words.lt32 a) (Words.lt32 b)]; unfold or32; rw [UInt32.toNat_or]
theorem or_nat (d e : UInt32) : (or32 (half d) (topb e)).toNat = d.toNat / 2 + e.toNat % 2 * 2147483648 := by
  unfold or32
  rw [UInt32.toNat_or, half_nat, topb_nat]
  have hd := d.toNat_lt
  rw [show e.toNat * 2147483648 % 4294967296 = 2 ^ 31 * (e.toNat % 2) by omega, Nat.or_comm, ← Nat.two_pow_add_eq_or_of_lt (by omega)]
  omega

/-- The list halved. -/
def sr : List UInt32 → List UInt32
  | [] => []
  | [d] => [half d]
  | d :: e :: r => or32 (half d) (topb e) :: sr (e :: r)
theorem sr_len : ∀ l : List UInt32, (sr l).length = l.length
  | [] => rfl
  | [_] => rfl
  | d :: e :: r => by rw [sr, List.length_cons, sr_len (e :: r)]; rfl
theorem sr_val : ∀ l : List UInt32, val (sr l) = val l / 2
  | [] => rfl
  | [d] => by simp only [sr, val, half_nat]; omega
  | d :: e :: r => by
    rw [sr, val, sr_val (e :: r), or_nat]
    simp only [val]
    omega
theorem sr_last : ∀ (l : List UInt32) (k : Nat) (d : UInt32), l[k]? = some d → k + 1 = l.length → (sr l)[k]? = some (half d)
  | [], k, d, h, hk => by simp at hk
  | [a], k, d, h, hk => by
    obtain rfl : k = 0 := by simp at hk; omega
    injection h with h; subst h; rfl
  | a :: e :: r, k, d, h, hk => by
    cases k with
    | zero => simp at hk
    | succ k => simpa [sr] using sr_last (e :: r) k d (by simpa using h) (by simpa using hk)
theorem sr_mid : ∀ (l : List UInt32) (k : Nat) (d e : UInt32), l[k]? = some d → l[k + 1]? = some e → (sr l)[k]? = some (or32 (half d) (topb e))
  | [], k, d, e, h, _ => by simp at h
  | [a], k, d, e, _, h => by simp at h
  | a :: b :: r, k, d, e, h, h2 => by
    cases k with
    | zero => simp at h h2; subst h h2; rfl
    | succ k => simpa [sr] using sr_mid (b :: r) k d e (by simpa using h) (by simpa using h2)

attribute [local go_sem] halved topped ored

def Sliced (l : List UInt32) (W : World) (e : Ending) (W' : World) : Prop :=
  ∃ g : Nat, e = .returned (.slice (some ⟨g, 0, none⟩) l.length l.length) ∧ W.heap.size ≤ g ∧ Below W.heap.size W W' ∧ Blk W' g 64 (rowOf l)

def RoundAt (W : World) (l : List UInt32) (k : Nat) (wr : World) : Prop := Below W.heap.size W wr ∧ W.heap.size < wr.heap.size ∧ Blk wr W.heap.size 64 (rowOf (fill (sr l) k))

theorem stored_size' (W : World) (z : Nat) (s : Bool) (v : Value) : (stored W z s v).heap.size = W.heap.size := stored_size W z s v
theorem dig_stored {W : World} {z : Nat} (hz : Slot W z) {A : Option Addr} {ds : List UInt32} (h : Dig W A ds) (s : Bool) (v : Value) : Dig (stored W z s v) A ds := by
  refine h.keep fun g cs hg => hg.grown (stored_grown W z s v) ?_
  intro e
  injection e with e
  subst e
  obtain ⟨a, b, hb, _⟩ := hz
  exact absurd rfl (Blk.ne_ hg hb (by decide))

/-- The end of a function that stores a slice of digits into z and trims it. -/
theorem stored_trim {W : World} {z : Nat} (hz : Slot W z) {A : Option Addr} {ds : List UInt32} {cap : Nat} (h : Dig W A ds) (hc : ds.length ≤ cap) (hmax : ds.length ≤ 4611686018427387904) :
    Calls Try.prog 36 #[.pointer (some ⟨z, 0, none⟩)] (stored W z false (.slice A ds.length cap)) (Trimmed z (val ds) W) :=
  (trim_c z cap A ds _ (stored_cell hz false A ds.length cap) (dig_stored hz h false _) hc hmax).mono fun e w' h' => h'.from (stored_grown W z false _)

end Go.Proofs.Ytlcbchpijijilaa.Big
