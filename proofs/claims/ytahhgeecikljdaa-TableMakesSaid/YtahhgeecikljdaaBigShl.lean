/-
  The contracts of shiftLeft by 31 and (of the number 1) by 64.
-/
import Derived.Test.YtahhgeecikljdaaBigAdd
namespace Go.Proofs.Ytahhgeecikljdaa.Big
set_option linter.unusedVariables false
open Go.RowKit

def shl31 (a : UInt32) : UInt64 := UInt64.ofNat (a.toNat * 2147483648)
theorem shl31_nat (a : UInt32) : (shl31 a).toNat = a.toNat * 2147483648 := by
  unfold shl31; have := a.toNat_lt; rw [UInt64.toNat_ofNat', Nat.mod_eq_of_lt (by omega)]
theorem shl31ed (a : UInt32) : IntKind.u64.wrap ((a.toNat : Int) * 2147483648) = ((shl31 a).toNat : Int) := by
  rw [shl31_nat, IntKind.wrap_u64]; have := a.toNat_lt; omega
theorem shl31_lo (a : UInt32) : (lo (shl31 a)).toNat = a.toNat % 2 * 2147483648 := by rw [lo_nat, shl31_nat]; omega
theorem shl31_hi (a : UInt32) : (hi (shl31 a)).toNat = a.toNat / 2 := by rw [hi_nat, shl31_nat]; omega
theorem or_lo (c a : UInt32) (h : c.toNat < 2147483648) : (or32 c (lo (shl31 a))).toNat = c.toNat + a.toNat % 2 * 2147483648 := by
  unfold or32
  rw [UInt32.toNat_or, shl31_lo, show a.toNat % 2 * 2147483648 = 2 ^ 31 * (a.toNat % 2) by omega, Nat.or_comm, ← Nat.two_pow_add_eq_or_of_lt (by omega)]
  omega
attribute [local go_sem] wide32 shl31ed shr32 low32 hi32 narrow32 ored

def ShlAt (W : World) (G : Nat) (l : List UInt32) (k : Nat) (wr : World) : Prop :=
  Below W.heap.size W wr ∧ ∃ (row : List UInt32) (c : UInt32), Blk wr G 71 (rowOf row) ∧ row.length = l.length + 1 ∧ val row = val (l.take k) * 2147483648 ∧ row[k]? = some c ∧ c.toNat < 2147483648 ∧ ∀ j, k < j → j < row.length → row[j]? = some 0
theorem shl_start (l : List UInt32) (W : World) : ShlAt W W.heap.size l 0 (W.alloc (.cells (rowOf (List.replicate (l.length + 1) 0)) 71)) := by
  refine ⟨(Below.refl _ _).alloc (Nat.le_refl _) _, _, 0, Blk.new W _ _, by simp, ?_, by simp, by decide, ?_⟩
  · rw [val_zeros (fun j u hj => by
      rw [List.getElem?_replicate] at hj
      split at hj
      · injection hj with hj; exact hj.symm
      · cases hj)]
    simp [val]
  · intro k _ hk
    rw [List.getElem?_replicate, if_pos (by simpa using hk)]
theorem shl_next {W : World} {l : List UInt32} {k : Nat} {a c : UInt32} {wr : World} {row : List UInt32} (hb : Below W.heap.size W wr) (hrow : Blk wr W.heap.size 71 (rowOf row)) (hlen : row.length = l.length + 1)
    (hval : val row = val (l.take k) * 2147483648) (hc : row[k]? = some c) (hc2 : c.toNat < 2147483648) (hzero : ∀ j, k < j → j < row.length → row[j]? = some 0) (ha : l[k]? = some a) :
    ShlAt W W.heap.size l (k + 1) ((wr.setCell ⟨W.heap.size, k, none⟩ (.int .u32 (or32 c (lo (shl31 a))).toNat)).setCell ⟨W.heap.size, k + 1, none⟩ (.int .u32 (hi (shl31 a)).toNat)) := by
  have hk : k < l.length := (List.getElem?_eq_some_iff.1 ha).1
  refine ⟨(hb.setCell (Nat.le_refl _) _).setCell (Nat.le_refl _) _, (row.set k (or32 c (lo (shl31 a)))).set (k + 1) (hi (shl31 a)), hi (shl31 a), (hrow.put_ _ _).put_ _ _, by rw [List.length_set, List.length_set]; exact hlen, ?_, ?_, ?_, ?_⟩
  · have h1 := val_set row k (or32 c (lo (shl31 a))) c hc
    have h2 := val_set (row.set k (or32 c (lo (shl31 a)))) (k + 1) (hi (shl31 a)) 0 (by rw [List.getElem?_set_ne (by omega)]; exact hzero _ (by omega) (by omega))
    have e0 : (0 : UInt32).toNat = 0 := rfl
    rw [e0, Nat.mul_zero, Nat.add_zero] at h2
    rw [h2, val_take_succ l k a ha, shl31_hi, Nat.pow_succ]
    rw [or_lo c a hc2] at h1
    have hd : a.toNat % 2 * 2147483648 + 4294967296 * (a.toNat / 2) = a.toNat * 2147483648 := by omega
    grind
  · rw [List.getElem?_set_self (by rw [List.length_set]; omega)]
  · rw [shl31_hi]; have := a.toNat_lt; omega
  · intro j hj hjl
    rw [List.length_set, List.length_set] at hjl
    rw [List.getElem?_set_ne (by omega), List.getElem?_set_ne (by omega)]
    exact hzero j (by omega) hjl

set_option maxHeartbeats 2000000 in
theorem shl_c (A : Option Addr) (ca : Nat) (l : List UInt32) (W : World) (hx : Dig W A l) (hM : l.length + 1 ≤ 35184372088832) :
    Calls Try.prog 62 #[.slice A l.length ca, .int .i64 31] W (Summed (val l * 2147483648) (l.length + 1) W) := by
  have hmk := make_c (l.length + 1) hM
  rw [show ((l.length + 1 : Nat) : Int) = (l.length : Int) + 1 by omega] at hmk
  go_enter Try.func62, Try.ntmps62
  go_wp2
  go_loopw [18] (fun i wr => ∃ (k : Nat), k ≤ l.length ∧ i = .int .i64 k ∧ ShlAt W W.heap.size l k wr) (fun i _ => l.length - (intOf i).toNat)
  case atStart => exact ⟨0, Nat.zero_le _, rfl, shl_start l W⟩
  case round =>
    obtain ⟨k, hk, rfl, hR⟩ := hrel
    by_cases hlt2 : k < l.length
    · obtain ⟨hb, row, c, hrow, hlen, hval, hc, hc2, hzero⟩ := hR
      obtain ⟨g, cs, a, rfl, hbk, ha, hca⟩ := hx.at_ hlt2
      have hca' : wr.cell? ⟨g, k, none⟩ = some (.int .u32 a.toNat) := (hb.cell (p := ⟨g, k, none⟩) hbk.lt).trans hca
      have hco : wr.cell? ⟨W.heap.size, k, none⟩ = some (.int .u32 c.toNat) := hrow.at_ hc
      have hco1 : wr.cell? ⟨W.heap.size, k + 1, none⟩ = some (.int .u32 0) := hrow.at_ (hzero _ (by omega) (by omega))
      have hfo : wr.frozen? ⟨W.heap.size, k, none⟩ = false := hrow.frozen _
      have hfo1 : wr.frozen? ⟨W.heap.size, k + 1, none⟩ = false := hrow.frozen _
      have HN := Lib.hid (shl_next hb hrow hlen hval hc hc2 hzero ha)
      clear hb hrow hlen hval hc hc2 hzero ha hca
      go_wp2
      go_roundw
      case rel => exact ⟨k + 1, by omega, by go_num, HN.out⟩
      case measure => simp [intOf]; omega
    · have hke : k = l.length := by omega
      subst hke
      obtain ⟨hb, row, c, hrow, hlen, hval, _, _, _⟩ := hR
      rw [List.take_length] at hval
      have HL := Lib.hid hlen
      have HV := Lib.hid hval
      clear hlen hval
      go_wp2
      go_ret
      exact ⟨W.heap.size, row, rfl, HL.out, HV.out, Nat.le_refl _, hb, hrow⟩

def Sh64 (W : World) (k : Nat) (wr : World) : Prop := Below W.heap.size W wr ∧ ((k = 0 ∧ Blk wr W.heap.size 71 (rowOf [0, 0, 0, 0])) ∨ (k = 1 ∧ Blk wr W.heap.size 71 (rowOf [0, 0, 1, 0])))
theorem one_wide : IntKind.u64.wrap ((1 : Int) * 1) = 1 := by decide

set_option maxHeartbeats 2000000 in
theorem shl64_c (g ca : Nat) (W : World) (hg : g < W.heap.size) (hx : W.cell? ⟨g, 0, none⟩ = some (.int .u32 1)) :
    Calls Try.prog 62 #[.slice (some ⟨g, 0, none⟩) 1 ca, .int .i64 64] W (Summed 18446744073709551616 4 W) := by
  have hmk : ∀ w, (Instr.makeSlice 60 (.int .i64 4) (.int .i64 4)).run Try.prog w = .ok (.slice (some ⟨w.heap.size, 0, none⟩) 4 4) (w.alloc (.cells (rowOf [0, 0, 0, 0]) 71)) := make_c 4 (by omega)
  go_enter Try.func62, Try.ntmps62
  go_wp2
  go_loopw [18] (fun i wr => ∃ (k : Nat), i = .int .i64 k ∧ Sh64 W k wr) (fun i _ => 1 - (intOf i).toNat)
  case atStart => exact ⟨0, rfl, (Below.refl _ _).alloc (Nat.le_refl _) _, .inl ⟨rfl, Blk.new _ _ _⟩⟩
  case round =>
    obtain ⟨k, rfl, hb, h⟩ := hrel
    rcases h with ⟨rfl, hB⟩ | ⟨rfl, hB⟩
    · have hx' : wr.cell? ⟨g, 0, none⟩ = some (.int .u32 1) := (hb.cell (p := ⟨g, 0, none⟩) hg).trans hx
      have h2 : wr.cell? ⟨W.heap.size, 2, none⟩ = some (.int .u32 0) := hB.at_ (k := 2) rfl
      have h3 : wr.cell? ⟨W.heap.size, 3, none⟩ = some (.int .u32 0) := hB.at_ (k := 3) rfl
      have f2 : wr.frozen? ⟨W.heap.size, 2, none⟩ = false := hB.frozen _
      have f3 : wr.frozen? ⟨W.heap.size, 3, none⟩ = false := hB.frozen _
      have hN : Blk ((wr.setCell ⟨W.heap.size, 2, none⟩ (.int .u32 1)).setCell ⟨W.heap.size, 3, none⟩ (.int .u32 0)) W.heap.size 71 (rowOf [0, 0, 1, 0]) := (hB.put_ 2 1).put_ 3 0
      have hbN : Below W.heap.size W ((wr.setCell ⟨W.heap.size, 2, none⟩ (.int .u32 1)).setCell ⟨W.heap.size, 3, none⟩ (.int .u32 0)) := (hb.setCell (Nat.le_refl _) _).setCell (Nat.le_refl _) _
      go_wp2
      go_roundw
      case rel => exact ⟨1, by go_num, hbN, .inr ⟨rfl, hN⟩⟩
      case measure => simp [intOf]
    · go_wp2
      go_ret
      exact ⟨W.heap.size, [0, 0, 1, 0], rfl, rfl, rfl, Nat.le_refl _, hb, hB⟩
end Go.Proofs.Ytahhgeecikljdaa.Big
