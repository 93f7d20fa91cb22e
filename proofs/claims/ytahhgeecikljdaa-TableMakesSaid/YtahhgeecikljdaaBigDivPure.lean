/-
  The arithmetic of one step of long division by 2^64, shifted by 31 places.
-/
import Derived.Test.YtahhgeecikljdaaBigShr31
import Derived.Test.YtahhgeecikljdaaBigCmp
namespace Go.Proofs.Ytahhgeecikljdaa.Big
set_option linter.unusedVariables false
open Go.RowKit

def pq (a b : UInt32) : UInt32 := UInt32.ofNat (join a b / 2147483648)
def pr (a b : UInt32) : UInt32 := UInt32.ofNat (join a b % 2147483648)
theorem pq_nat (a b : UInt32) (h : b.toNat < 2147483648) : (pq a b).toNat = join a b / 2147483648 := by
  have ha := a.toNat_lt
  unfold pq; rw [UInt32.toNat_ofNat']; unfold join; omega
theorem pr_nat (a b : UInt32) : (pr a b).toNat = join a b % 2147483648 := by
  unfold pr; rw [UInt32.toNat_ofNat']; omega
theorem or_join2 (a b : UInt32) : bits .or .u64 (IntKind.u64.wrap ((b.toNat : Int) * 4294967296)) (a.toNat : Int) = ((join a b : Nat) : Int) := by
  rw [show IntKind.u64.wrap ((b.toNat : Int) * 4294967296) = (b.toNat : Int) * 4294967296 by rw [IntKind.wrap_u64]; have := b.toNat_lt; omega]
  exact or_join a b
theorem quo_join (a b : UInt32) (h : b.toNat < 2147483648) : IntKind.u64.wrap (((join a b : Nat) : Int).tdiv 2147483648) = ((pq a b).toNat : Int) := by
  have h1 := join_lt a b
  rw [pq_nat a b h, Int.tdiv_eq_ediv_of_nonneg (by omega), IntKind.wrap_u64]; omega
theorem rem_join (a b : UInt32) : (((join a b : Nat) : Int).tmod 2147483648) = ((pr a b).toNat : Int) := by
  rw [pr_nat, Int.tmod_eq_emod_of_nonneg (by omega)]; omega
theorem small32 (a : UInt32) : (a.toNat : Int) / 4294967296 = 0 := by have := a.toNat_lt; omega
theorem small63 (a : UInt32) : (a.toNat : Int) / 9223372036854775808 = 0 := by have := a.toNat_lt; omega
theorem wrapw (x : UInt64) : IntKind.u64.wrap (x.toNat : Int) = (x.toNat : Int) := by rw [IntKind.wrap_u64]; have := x.toNat_lt; omega
def sub32 (a b : UInt32) : UInt64 := UInt64.ofNat (18446744073709551616 + a.toNat - b.toNat)
theorem sub32_nat (a b : UInt32) : (sub32 a b).toNat = (18446744073709551616 + a.toNat - b.toNat) % 18446744073709551616 := by unfold sub32; rw [UInt64.toNat_ofNat']
theorem subbed32 (a b : UInt32) : IntKind.u64.wrap ((a.toNat : Int) - (b.toNat : Int)) = ((sub32 a b).toNat : Int) := by
  rw [sub32_nat, IntKind.wrap_u64]; have := a.toNat_lt; have := b.toNat_lt; omega
def subw (x : UInt64) (b : UInt32) : UInt64 := UInt64.ofNat (18446744073709551616 + x.toNat - b.toNat)
theorem subw_nat (x : UInt64) (b : UInt32) : (subw x b).toNat = (18446744073709551616 + x.toNat - b.toNat) % 18446744073709551616 := by unfold subw; rw [UInt64.toNat_ofNat']
theorem subbedw (x : UInt64) (b : UInt32) : IntKind.u64.wrap ((x.toNat : Int) - (b.toNat : Int)) = ((subw x b).toNat : Int) := by
  rw [subw_nat, IntKind.wrap_u64]; have := x.toNat_lt; have := b.toNat_lt; omega
def top63 (x : UInt64) : UInt32 := UInt32.ofNat (x.toNat / 9223372036854775808)
theorem top63_nat (x : UInt64) : (top63 x).toNat = x.toNat / 9223372036854775808 := by unfold top63; rw [UInt32.toNat_ofNat']; have := x.toNat_lt; omega
theorem topped63 (x : UInt64) : (x.toNat : Int) / 9223372036854775808 = ((top63 x).toNat : Int) := by rw [top63_nat]; omega

theorem low_rest (a b : UInt32) (h : b.toNat < 2147483648) : lo (sub32 a (lo (shl31 (pq a b)))) = pr a b := by
  apply UInt32.toNat_inj.1
  have ha := a.toNat_lt
  rw [lo_nat, sub32_nat, lo_nat, shl31_nat, pq_nat a b h, pr_nat]
  unfold join
  omega
theorem top_rest (a b : UInt32) (h : b.toNat < 2147483648) : subw (sub32 b (hi (shl31 (pq a b)))) (top63 (sub32 a (lo (shl31 (pq a b))))) = 0 := by
  apply UInt64.toNat_inj.1
  have ha := a.toNat_lt
  rw [subw_nat, sub32_nat, hi_nat, shl31_nat, top63_nat, sub32_nat, lo_nat, shl31_nat, pq_nat a b h]
  unfold join
  show _ = 0
  omega

/-- One step on the row's value. -/
theorem div_step {row : List UInt32} {k Q V : Nat} {t2 t3 : UInt32} (h2 : row[k + 2]? = some t2) (h3 : row[k + 3]? = some t3) (h : t3.toNat < 2147483648) (hV : val row + Q * 39614081257132168796771975168 = V) :
    val ((row.set (k + 2) (pr t2 t3)).set (k + 3) 0) + (Q + 4294967296 ^ k * (pq t2 t3).toNat) * 39614081257132168796771975168 = V := by
  have e1 := val_set row (k + 2) (pr t2 t3) t2 h2
  have e2 := val_set (row.set (k + 2) (pr t2 t3)) (k + 3) 0 t3 (by rw [List.getElem?_set_ne (by omega)]; exact h3)
  have e0 : (0 : UInt32).toNat = 0 := rfl
  rw [e0, Nat.mul_zero, Nat.add_zero] at e2
  have ha := t2.toNat_lt
  have hj : t2.toNat + 4294967296 * t3.toNat = (pq t2 t3).toNat * 2147483648 + (pr t2 t3).toNat := by
    rw [pq_nat _ _ h, pr_nat]; unfold join; omega
  have p2 : 4294967296 ^ (k + 2) = 4294967296 ^ k * 18446744073709551616 := by rw [Nat.pow_add]
  have p3 : 4294967296 ^ (k + 3) = 4294967296 ^ k * 79228162514264337593543950336 := by rw [Nat.pow_add]
  rw [p2] at e1
  rw [p3] at e2
  generalize 4294967296 ^ k = B at *
  generalize (pq t2 t3).toNat = q at *
  generalize (pr t2 t3).toNat = r at *
  generalize t2.toNat = a at *
  generalize t3.toNat = b at *
  have hB : B * (a + 4294967296 * b) = B * (q * 2147483648 + r) := by rw [hj]
  grind
end Go.Proofs.Ytahhgeecikljdaa.Big
