/-
  Texts that are built as one: BigShl, BigShr31, BigDivPure, BigParts, BigLsh, BigCopy, BigQuo, BigMod, BigOne.
-/
import Derived.Test.YtcbecpgllebepaaBigA
import Derived.Deep.RegionWith
import Derived.Deep.RegionLaw
import Derived.Test.YtcbecpgllebepaaMixPure
namespace Go.Proofs.Ytcbecpgllebepaa.Big
set_option linter.unusedVariables false
open Go.RowKit

def shl31 (a : UInt32) : UInt64 := UInt64.ofNat (a.toNat * 2147483648)
theorem shl31_nat (a : UInt32) : (shl31 a).toNat = a.toNat * 2147483648 := by
  unfold shl31; have := a.toNat_lt; rw [UInt64.toNat_ofNat', Nat.mod_eq_of_lt (by omega)]
theorem shl31ed (a : UInt32) : IntKind.u64.wrap ((a.toNat : Int) * 2147483648) = ((shl31 a).toNat : Int) := by
  rw [shl31_nat, IntKind.wrap_u64]; have := a.toNat_lt; omega
theorem shl31_lo (a : UInt32) : (lo (shl31 a)).toNat = a.toNat % 2 * 2147483648 := by rw [lo_nat, shl31_nat]; omega
theorem shl31_hi (a : UInt32) : (hi (shl31 a)).toNat = a.toNat / 2 := by rw [hi_nat, shl31_nat]; omega
theorem or_lo (c a : UInt32) (h : c.toNat < 2147483648) : (or32 c (lo (shl31 a))).toNat = c.toNat + a.toNat % 2 * 2147483648 := by
  unfold or32
  rw [UInt32.toNat_or, shl31_lo, show a.toNat % 2 * 2147483648 = 2 ^ 31 * (a.toNat % 2) by omega, Nat.or_comm, ← Nat.two_pow_add_eq_or_of_lt (by omega)]
  omega
attribute [local go_sem] wide32 shl31ed shr32 low32 hi32 narrow32 ored

def ShlAt (W : World) (G : Nat) (l : List UInt32) (k : Nat) (wr : World) : Prop :=
  Below W.heap.size W wr ∧ ∃ (row : List UInt32) (c : UInt32), Blk wr G 99 (rowOf row) ∧ row.length = l.length + 1 ∧ val row = val (l.take k) * 2147483648 ∧ row[k]? = some c ∧ c.toNat < 2147483648 ∧ ∀ j, k < j → j < row.length → row[j]? = some 0
theorem shl_start (l : List UInt32) (W : World) : ShlAt W W.heap.size l 0 (W.alloc (.cells (rowOf (List.replicate (l.length + 1) 0)) 99)) := by
  refine ⟨(Below.refl _ _).alloc (Nat.le_refl _) _, _, 0, Blk.new W _ _, by simp, ?_, by simp, by decide, ?_⟩
  · rw [val_zeros (fun j u hj => by
      rw [List.getElem?_replicate] at hj
      split at hj
      · injection hj with hj; exact hj.symm
      · cases hj)]
    simp [val]
  · intro k _ hk
    rw [List.getElem?_replicate, if_pos (by simpa using hk)]
theorem shl_next {W : World} {l : List UInt32} {k : Nat} {a c : UInt32} {wr : World} {row : List UInt32} (hb : Below W.heap.size W wr) (hrow : Blk wr W.heap.size 99 (rowOf row)) (hlen : row.length = l.length + 1)
    (hval : val row = val (l.take k) * 2147483648) (hc : row[k]? = some c) (hc2 : c.toNat < 2147483648) (hzero : ∀ j, k < j → j < row.length → row[j]? = some 0) (ha : l[k]? = some a) :
    ShlAt W W.heap.size l (k + 1) ((wr.setCell ⟨W.heap.size, k, none⟩ (.int .u32 (or32 c (lo (shl31 a))).toNat)).setCell ⟨W.heap.size, k + 1, none⟩ (.int .u32 (hi (shl31 a)).toNat)) := by
  have hk : k < l.length := (List.getElem?_eq_some_iff.1 ha).1
  refine ⟨(hb.setCell (Nat.le_refl _) _).setCell (Nat.le_refl _) _, (row.set k (or32 c (lo (shl31 a)))).set (k + 1) (hi (shl31 a)), hi (shl31 a), (hrow.put_ _ _).put_ _ _, by rw [List.length_set, List.length_set]; exact hlen, ?_, ?_, ?_, ?_⟩
  · have h1 := val_set row k (or32 c (lo (shl31 a))) c hc
    have h2 := val_set (row.set k (or32 c (lo (shl31 a)))) (k + 1) (hi (shl31 a)) 0 (by rw [List.getElem?_set_ne (by omega)]; exact hzero _ (by omega) (by omega))
    have e0 : (0 : UInt32).toNat = 0 := rfl
    rw [e0, Nat.mul_zero, Nat.add_zero] at h2
    rw [h2, val_take_succ l k a ha, shl31_hi, Nat.pow_succ]
    rw [or_lo c a hc2] at h1
    have hd : a.toNat % 2 * 2147483648 + 4294967296 * (a.toNat / 2) = a.toNat * 2147483648 := by omega
    grind
  · rw [List.getElem?_set_self (by rw [List.length_set]; omega)]
  · rw [shl31_hi]; have := a.toNat_lt; omega
  · intro j hj hjl
    rw [List.length_set, List.length_set] at hjl
    rw [List.getElem?_set_ne (by omega), List.getElem?_set_ne (by omega)]
    exact hzero j (by omega) hjl

set_option maxHeartbeats 2000000 in
theorem shl_c (A : Option Addr) (ca : Nat) (l : List UInt32) (W : World) (hx : Dig W A l) (hM : l.length + 1 ≤ 35184372088832) :
    Calls Try.prog 94 #[.slice A l.length ca, .int .i64 31] W (Summed (val l * 2147483648) (l.length + 1) W) := by
  have hmk := make_c (l.length + 1) hM
  rw [show ((l.length + 1 : Nat) : Int) = (l.length : Int) + 1 by omega] at hmk
  go_enter Try.func94, Try.ntmps94
  go_wp2
  go_loopw [18] (fun i wr => ∃ (k : Nat), k ≤ l.length ∧ i = .int .i64 k ∧ ShlAt W W.heap.size l k wr) (fun i _ => l.length - (intOf i).toNat)
  case atStart => exact ⟨0, Nat.zero_le _, rfl, shl_start l W⟩
  case round =>
    obtain ⟨k, hk, rfl, hR⟩ := hrel
    by_cases hlt2 : k < l.length
    · obtain ⟨hb, row, c, hrow, hlen, hval, hc, hc2, hzero⟩ := hR
      obtain ⟨g, cs, a, rfl, hbk, ha, hca⟩ := hx.at_ hlt2
      have hca' : wr.cell? ⟨g, k, none⟩ = some (.int .u32 a.toNat) := (hb.cell (p := ⟨g, k, none⟩) hbk.lt).trans hca
      have hco : wr.cell? ⟨W.heap.size, k, none⟩ = some (.int .u32 c.toNat) := hrow.at_ hc
      have hco1 : wr.cell? ⟨W.heap.size, k + 1, none⟩ = some (.int .u32 0) := hrow.at_ (hzero _ (by omega) (by omega))
      have hfo : wr.frozen? ⟨W.heap.size, k, none⟩ = false := hrow.frozen _
      have hfo1 : wr.frozen? ⟨W.heap.size, k + 1, none⟩ = false := hrow.frozen _
      have HN := Lib.hid (shl_next hb hrow hlen hval hc hc2 hzero ha)
      clear hb hrow hlen hval hc hc2 hzero ha hca
      go_wp2
      go_roundw
      case rel => exact ⟨k + 1, by omega, by go_num, HN.out⟩
      case measure => simp [intOf]; omega
    · have hke : k = l.length := by omega
      subst hke
      obtain ⟨hb, row, c, hrow, hlen, hval, _, _, _⟩ := hR
      rw [List.take_length] at hval
      have HL := Lib.hid hlen
      have HV := Lib.hid hval
      clear hlen hval
      go_wp2
      go_ret
      exact ⟨W.heap.size, row, rfl, HL.out, HV.out, Nat.le_refl _, hb, hrow⟩

def Sh64 (W : World) (k : Nat) (wr : World) : Prop := Below W.heap.size W wr ∧ ((k = 0 ∧ Blk wr W.heap.size 99 (rowOf [0, 0, 0, 0])) ∨ (k = 1 ∧ Blk wr W.heap.size 99 (rowOf [0, 0, 1, 0])))
theorem one_wide : IntKind.u64.wrap ((1 : Int) * 1) = 1 := by decide

set_option maxHeartbeats 2000000 in
theorem shl64_c (g ca : Nat) (W : World) (hg : g < W.heap.size) (hx : W.cell? ⟨g, 0, none⟩ = some (.int .u32 1)) :
    Calls Try.prog 94 #[.slice (some ⟨g, 0, none⟩) 1 ca, .int .i64 64] W (Summed 18446744073709551616 4 W) := by
  have hmk : ∀ w, (Instr.makeSlice 82 (.int .i64 4) (.int .i64 4)).run Try.prog w = .ok (.slice (some ⟨w.heap.size, 0, none⟩) 4 4) (w.alloc (.cells (rowOf [0, 0, 0, 0]) 99)) := make_c 4 (by omega)
  go_enter Try.func94, Try.ntmps94
  go_wp2
  go_loopw [18] (fun i wr => ∃ (k : Nat), i = .int .i64 k ∧ Sh64 W k wr) (fun i _ => 1 - (intOf i).toNat)
  case atStart => exact ⟨0, rfl, (Below.refl _ _).alloc (Nat.le_refl _) _, .inl ⟨rfl, Blk.new _ _ _⟩⟩
  case round =>
    obtain ⟨k, rfl, hb, h⟩ := hrel
    rcases h with ⟨rfl, hB⟩ | ⟨rfl, hB⟩
    · have hx' : wr.cell? ⟨g, 0, none⟩ = some (.int .u32 1) := (hb.cell (p := ⟨g, 0, none⟩) hg).trans hx
      have h2 : wr.cell? ⟨W.heap.size, 2, none⟩ = some (.int .u32 0) := hB.at_ (k := 2) rfl
      have h3 : wr.cell? ⟨W.heap.size, 3, none⟩ = some (.int .u32 0) := hB.at_ (k := 3) rfl
      have f2 : wr.frozen? ⟨W.heap.size, 2, none⟩ = false := hB.frozen _
      have f3 : wr.frozen? ⟨W.heap.size, 3, none⟩ = false := hB.frozen _
      have hN : Blk ((wr.setCell ⟨W.heap.size, 2, none⟩ (.int .u32 1)).setCell ⟨W.heap.size, 3, none⟩ (.int .u32 0)) W.heap.size 99 (rowOf [0, 0, 1, 0]) := (hB.put_ 2 1).put_ 3 0
      have hbN : Below W.heap.size W ((wr.setCell ⟨W.heap.size, 2, none⟩ (.int .u32 1)).setCell ⟨W.heap.size, 3, none⟩ (.int .u32 0)) := (hb.setCell (Nat.le_refl _) _).setCell (Nat.le_refl _) _
      go_wp2
      go_roundw
      case rel => exact ⟨1, by go_num, hbN, .inr ⟨rfl, hN⟩⟩
      case measure => simp [intOf]
    · go_wp2
      go_ret
      exact ⟨W.heap.size, [0, 0, 1, 0], rfl, rfl, rfl, Nat.le_refl _, hb, hB⟩
end Go.Proofs.Ytcbecpgllebepaa.Big

namespace Go.Proofs.Ytcbecpgllebepaa.Big
set_option linter.unusedVariables false
open Go.RowKit

def half31 (d : UInt32) : UInt32 := d >>> 31
def topb1 (e : UInt32) : UInt32 := e <<< 1
theorem half31_nat (d : UInt32) : (half31 d).toNat = d.toNat / 2147483648 := by
  unfold half31
  rw [UInt32.toNat_shiftRight, show (31 : UInt32).toNat % 32 = 31 by decide, Nat.shiftRight_eq_div_pow]
theorem topb1_nat (e : UInt32) : (topb1 e).toNat = e.toNat * 2 % 4294967296 := by
  unfold topb1
  rw [UInt32.toNat_shiftLeft, show (1 : UInt32).toNat % 32 = 1 by decide, Nat.shiftLeft_eq]
theorem halved31 (d : UInt32) : (d.toNat : Int) / 2147483648 = ((half31 d).toNat : Int) := by rw [half31_nat]; omega
theorem topped1 (e : UInt32) : (e.toNat : Int) * 2 % 4294967296 = ((topb1 e).toNat : Int) := by rw [topb1_nat]; omega
theorem or31_nat (d e : UInt32) : (or32 (half31 d) (topb1 e)).toNat = d.toNat / 2147483648 + e.toNat * 2 % 4294967296 := by
  unfold or32
  rw [UInt32.toNat_or, half31_nat, topb1_nat]
  have hd := d.toNat_lt
  rw [show e.toNat * 2 % 4294967296 = 2 ^ 1 * (e.toNat % 2147483648) by omega, Nat.or_comm, ← Nat.two_pow_add_eq_or_of_lt (by omega)]
  omega
def sr31 : List UInt32 → List UInt32
  | [] => []
  | [d] => [half31 d]
  | d :: e :: r => or32 (half31 d) (topb1 e) :: sr31 (e :: r)
theorem sr31_len : ∀ l : List UInt32, (sr31 l).length = l.length
  | [] => rfl
  | [_] => rfl
  | d :: e :: r => by rw [sr31, List.length_cons, sr31_len (e :: r)]; rfl
theorem sr31_val : ∀ l : List UInt32, val (sr31 l) = val l / 2147483648
  | [] => rfl
  | [d] => by simp only [sr31, val, half31_nat]; omega
  | d :: e :: r => by
    rw [sr31, val, sr31_val (e :: r), or31_nat]
    simp only [val]
    omega
theorem sr31_last : ∀ (l : List UInt32) (k : Nat) (d : UInt32), l[k]? = some d → k + 1 = l.length → (sr31 l)[k]? = some (half31 d)
  | [], k, d, h, hk => by simp at hk
  | [a], k, d, h, hk => by
    obtain rfl : k = 0 := by simp at hk; omega
    injection h with h; subst h; rfl
  | a :: e :: r, k, d, h, hk => by
    cases k with
    | zero => simp at hk
    | succ k => simpa [sr31] using sr31_last (e :: r) k d (by simpa using h) (by simpa using hk)
theorem sr31_mid : ∀ (l : List UInt32) (k : Nat) (d e : UInt32), l[k]? = some d → l[k + 1]? = some e → (sr31 l)[k]? = some (or32 (half31 d) (topb1 e))
  | [], k, d, e, h, _ => by simp at h
  | [a], k, d, e, _, h => by simp at h
  | a :: b :: r, k, d, e, h, h2 => by
    cases k with
    | zero => simp at h h2; subst h h2; rfl
    | succ k => simpa [sr31] using sr31_mid (b :: r) k d e (by simpa using h) (by simpa using h2)
attribute [local go_sem] halved31 topped1 ored
def RoundAt31 (W : World) (l : List UInt32) (k : Nat) (wr : World) : Prop := Below W.heap.size W wr ∧ W.heap.size < wr.heap.size ∧ Blk wr W.heap.size 99 (rowOf (fill (sr31 l) k))

set_option maxHeartbeats 2000000 in
theorem shiftRight31_c (g cap : Nat) (l : List UInt32) (x : UInt32) (W : World) (hl : 1 ≤ l.length) (hx : ∀ (j : Nat) (u : UInt32), l[j]? = some u → W.cell? ⟨g, j, none⟩ = some (.int .u32 u.toNat))
    (hg : g < W.heap.size) (hcap : l.length ≤ cap) (hM : l.length ≤ 35184372088832) :
    Calls Try.prog 71 #[.slice (some ⟨g, 0, none⟩) l.length cap, .int .i64 31] W (Sliced (sr31 l) W) := by
  have hmk := make_c l.length hM
  have hc1 : ¬ cap = 0 := by omega
  have hb1 : decide (l.length ≤ 0) = false := decide_eq_false (by omega)
  have hb2 : decide ((l.length : Int) ≤ 0) = false := decide_eq_false (by omega)
  have hb3 : decide (l = []) = false := decide_eq_false (by intro h; subst h; simp at hl)
  go_enter Try.func71, Try.ntmps71
  go_wp2
  go_loopw [22] (fun i wr => ∃ k : Nat, k ≤ l.length ∧ i = .int .i64 k ∧ RoundAt31 W l k wr) (fun i _ => l.length - (intOf i).toNat)
  case atStart => exact ⟨0, Nat.zero_le _, rfl, (Below.refl _ _).alloc (Nat.le_refl _) _, by simp, by rw [fill_zero, sr31_len]; exact Blk.new _ _ _⟩
  case round =>
    obtain ⟨k, hk, rfl, hR⟩ := hrel
    by_cases hlt : k < l.length
    · obtain ⟨hb, hsz, hB⟩ := hR
      have hd : l[k]? = some l[k] := List.getElem?_eq_getElem hlt
      obtain ⟨d, hde⟩ : ∃ d, l[k] = d := ⟨_, rfl⟩
      rw [hde] at hd
      have hcx : wr.cell? ⟨g, k, none⟩ = some (.int .u32 d.toNat) := (hb.cell (p := ⟨g, k, none⟩) hg).trans (hx k d hd)
      have hco : wr.cell? ⟨W.heap.size, k, none⟩ = some (.int .u32 0) := hB.at_ (fill_at (by rw [sr31_len]; exact hlt))
      have hfo : wr.frozen? ⟨W.heap.size, k, none⟩ = false := hB.frozen k
      have HD := Lib.hid hd
      clear hd hde
      by_cases hn : k + 1 < l.length
      · have he : l[k + 1]? = some l[k + 1] := List.getElem?_eq_getElem hn
        obtain ⟨e, hee⟩ : ∃ e, l[k + 1] = e := ⟨_, rfl⟩
        rw [hee] at he
        have hc2 : (wr.setCell ⟨W.heap.size, k, none⟩ (.int .u32 (half31 d).toNat)).cell? ⟨g, k + 1, none⟩ = some (.int .u32 e.toNat) := by
          rw [World.cell?_setCell_other _ _ _ _ (by intro h; injection h with h _; omega)]
          exact (hb.cell (p := ⟨g, k + 1, none⟩) hg).trans (hx (k + 1) e he)
        have HE := Lib.hid he
        clear he hee
        go_wp2
        go_region
        all_goals go_wp2
        all_goals go_roundw
        case rel =>
          refine ⟨k + 1, by omega, by go_num, ((hb.setCell (by simp) _).setCell (by simp) _).drew, by simpa [World.setCell] using hsz, ?_⟩
          rw [← fill_set2 (v := half31 d) (sr31_mid l k d e HD.out HE.out)]
          exact (hB.put_ k _).put_ k _
        case measure => simp [intOf]; omega
      · have hke : k + 1 = l.length := by omega
        have HK := Lib.hid hke
        clear hke
        go_wp2
        go_roundw
        case rel => exact ⟨k + 1, by omega, by go_num, hb.setCell (by simp) _, by simpa [World.setCell] using hsz, by rw [← fill_set (sr31_last l k d HD.out HK.out)]; exact hB.put_ k _⟩
        case measure => simp [intOf]; omega
    · have hke : k = l.length := by omega
      subst hke
      have HR := Lib.hid hR
      clear hR
      go_wp2
      go_ret
      have hB := HR.out.2.2
      rw [← sr31_len l, fill_all] at hB
      exact ⟨W.heap.size, by rw [sr31_len]; rfl, Nat.le_refl _, HR.out.1, hB⟩

end Go.Proofs.Ytcbecpgllebepaa.Big

namespace Go.Proofs.Ytcbecpgllebepaa.Big
set_option linter.unusedVariables false
open Go.RowKit

def pq (a b : UInt32) : UInt32 := UInt32.ofNat (join a b / 2147483648)
def pr (a b : UInt32) : UInt32 := UInt32.ofNat (join a b % 2147483648)
theorem pq_nat (a b : UInt32) (h : b.toNat < 2147483648) : (pq a b).toNat = join a b / 2147483648 := by
  have ha := a.toNat_lt
  unfold pq; rw [UInt32.toNat_ofNat']; unfold join; omega
theorem pr_nat (a b : UInt32) : (pr a b).toNat = join a b % 2147483648 := by
  unfold pr; rw [UInt32.toNat_ofNat']; omega
theorem or_join2 (a b : UInt32) : bits .or .u64 (IntKind.u64.wrap ((b.toNat : Int) * 4294967296)) (a.toNat : Int) = ((join a b : Nat) : Int) := by
  rw [show IntKind.u64.wrap ((b.toNat : Int) * 4294967296) = (b.toNat : Int) * 4294967296 by rw [IntKind.wrap_u64]; have := b.toNat_lt; omega]
  exact or_join a b
theorem quo_join (a b : UInt32) (h : b.toNat < 2147483648) : IntKind.u64.wrap (((join a b : Nat) : Int).tdiv 2147483648) = ((pq a b).toNat : Int) := by
  have h1 := join_lt a b
  rw [pq_nat a b h, Int.tdiv_eq_ediv_of_nonneg (by omega), IntKind.wrap_u64]; omega
theorem rem_join (a b : UInt32) : (((join a b : Nat) : Int).tmod 2147483648) = ((pr a b).toNat : Int) := by
  rw [pr_nat, Int.tmod_eq_emod_of_nonneg (by omega)]; omega
theorem small32 (a : UInt32) : (a.toNat : Int) / 4294967296 = 0 := by have := a.toNat_lt; omega
theorem small63 (a : UInt32) : (a.toNat : Int) / 9223372036854775808 = 0 := by have := a.toNat_lt; omega
theorem wrapw (x : UInt64) : IntKind.u64.wrap (x.toNat : Int) = (x.toNat : Int) := by rw [IntKind.wrap_u64]; have := x.toNat_lt; omega
def sub32 (a b : UInt32) : UInt64 := UInt64.ofNat (18446744073709551616 + a.toNat - b.toNat)
theorem sub32_nat (a b : UInt32) : (sub32 a b).toNat = (18446744073709551616 + a.toNat - b.toNat) % 18446744073709551616 := by unfold sub32; rw [UInt64.toNat_ofNat']
theorem subbed32 (a b : UInt32) : IntKind.u64.wrap ((a.toNat : Int) - (b.toNat : Int)) = ((sub32 a b).toNat : Int) := by
  rw [sub32_nat, IntKind.wrap_u64]; have := a.toNat_lt; have := b.toNat_lt; omega
def subw (x : UInt64) (b : UInt32) : UInt64 := UInt64.ofNat (18446744073709551616 + x.toNat - b.toNat)
theorem subw_nat (x : UInt64) (b : UInt32) : (subw x b).toNat = (18446744073709551616 + x.toNat - b.toNat) % 18446744073709551616 := by unfold subw; rw [UInt64.toNat_ofNat']
theorem subbedw (x : UInt64) (b : UInt32) : IntKind.u64.wrap ((x.toNat : Int) - (b.toNat : Int)) = ((subw x b).toNat : Int) := by
  rw [subw_nat, IntKind.wrap_u64]; have := x.toNat_lt; have := b.toNat_lt; omega
def top63 (x : UInt64) : UInt32 := UInt32.ofNat (x.toNat / 9223372036854775808)
theorem top63_nat (x : UInt64) : (top63 x).toNat = x.toNat / 9223372036854775808 := by unfold top63; rw [UInt32.toNat_ofNat']; have := x.toNat_lt; omega
theorem topped63 (x : UInt64) : (x.toNat : Int) / 9223372036854775808 = ((top63 x).toNat : Int) := by rw [top63_nat]; omega

theorem low_rest (a b : UInt32) (h : b.toNat < 2147483648) : lo (sub32 a (lo (shl31 (pq a b)))) = pr a b := by
  apply UInt32.toNat_inj.1
  have ha := a.toNat_lt
  rw [lo_nat, sub32_nat, lo_nat, shl31_nat, pq_nat a b h, pr_nat]
  unfold join
  omega
theorem top_rest (a b : UInt32) (h : b.toNat < 2147483648) : subw (sub32 b (hi (shl31 (pq a b)))) (top63 (sub32 a (lo (shl31 (pq a b))))) = 0 := by
  apply UInt64.toNat_inj.1
  have ha := a.toNat_lt
  rw [subw_nat, sub32_nat, hi_nat, shl31_nat, top63_nat, sub32_nat, lo_nat, shl31_nat, pq_nat a b h]
  unfold join
  show _ = 0
  omega

/-- One step on the row's value. -/
theorem div_step {row : List UInt32} {k Q V : Nat} {t2 t3 : UInt32} (h2 : row[k + 2]? = some t2) (h3 : row[k + 3]? = some t3) (h : t3.toNat < 2147483648) (hV : val row + Q * 39614081257132168796771975168 = V) :
    val ((row.set (k + 2) (pr t2 t3)).set (k + 3) 0) + (Q + 4294967296 ^ k * (pq t2 t3).toNat) * 39614081257132168796771975168 = V := by
  have e1 := val_set row (k + 2) (pr t2 t3) t2 h2
  have e2 := val_set (row.set (k + 2) (pr t2 t3)) (k + 3) 0 t3 (by rw [List.getElem?_set_ne (by omega)]; exact h3)
  have e0 : (0 : UInt32).toNat = 0 := rfl
  rw [e0, Nat.mul_zero, Nat.add_zero] at e2
  have ha := t2.toNat_lt
  have hj : t2.toNat + 4294967296 * t3.toNat = (pq t2 t3).toNat * 2147483648 + (pr t2 t3).toNat := by
    rw [pq_nat _ _ h, pr_nat]; unfold join; omega
  have p2 : 4294967296 ^ (k + 2) = 4294967296 ^ k * 18446744073709551616 := by rw [Nat.pow_add]
  have p3 : 4294967296 ^ (k + 3) = 4294967296 ^ k * 79228162514264337593543950336 := by rw [Nat.pow_add]
  rw [p2] at e1
  rw [p3] at e2
  generalize 4294967296 ^ k = B at *
  generalize (pq t2 t3).toNat = q at *
  generalize (pr t2 t3).toNat = r at *
  generalize t2.toNat = a at *
  generalize t3.toNat = b at *
  have hB : B * (a + 4294967296 * b) = B * (q * 2147483648 + r) := by rw [hj]
  grind
end Go.Proofs.Ytcbecpgllebepaa.Big

namespace Go.Proofs.Ytcbecpgllebepaa.Big
set_option linter.unusedVariables false
open Go.RowKit

theorem pow_small (j : Nat) (h : j < 31) : ((2 : Int) ^ j % 4294967296 / 2147483648 == 0) = true := by
  have h1 : (2 : Nat) ^ j < 2 ^ 31 := Nat.pow_lt_pow_right (by omega) h
  have h2 : ((2 : Int) ^ j) = ((2 ^ j : Nat) : Int) := by push_cast; rfl
  rw [h2, beq_iff_eq]
  generalize (2 : Nat) ^ j = m at *
  omega
theorem row95 {l : List UInt32} (hl : l.length = 4) (hv : val l = 39614081257132168796771975168) : l = [0, 0, 2147483648, 0] := by
  match l, hl with
  | [a, b, c, d], _ =>
    simp only [val] at hv
    have ha := a.toNat_lt; have hb := b.toNat_lt; have hc := c.toNat_lt; have hd := d.toNat_lt
    have e1 : a = 0 := UInt32.toNat_inj.1 (by show a.toNat = 0; omega)
    have e2 : b = 0 := UInt32.toNat_inj.1 (by show b.toNat = 0; omega)
    have e3 : c = 2147483648 := UInt32.toNat_inj.1 (by show c.toNat = 2147483648; omega)
    have e4 : d = 0 := UInt32.toNat_inj.1 (by show d.toNat = 0; omega)
    subst e1 e2 e3 e4
    rfl

def YRow (W : World) (e : Ending) (W' : World) : Prop :=
  ∃ g : Nat, e = .returned (.slice (some ⟨g, 0, none⟩) 4 4) ∧ W.heap.size ≤ g ∧ Below W.heap.size W W' ∧ Blk W' g 99 (rowOf [0, 0, 2147483648, 0])
theorem y_c (gy cb k : Nat) (W : World) (hgy : ∃ cs, Blk W gy 99 cs)
    (y0 : W.cell? ⟨gy, 0, none⟩ = some (.int .u32 0)) (y1 : W.cell? ⟨gy, 1, none⟩ = some (.int .u32 0)) (y2 : W.cell? ⟨gy, 2, none⟩ = some (.int .u32 1)) :
    Calls Try.prog 94 #[.slice (some ⟨gy, 0, none⟩) 3 cb, .int .i64 31] (W.drewN k) (YRow (W.drewN k)) := by
  obtain ⟨cs, hB⟩ := hgy
  have hd : Dig (W.drewN k) (some ⟨gy, 0, none⟩) [0, 0, 1] := .inr ⟨gy, cs, rfl, hB, fun j u hj => by
    match j with
    | 0 => injection hj with hj; subst hj; rw [← Blk.cell hB]; exact y0
    | 1 => injection hj with hj; subst hj; rw [← Blk.cell hB]; exact y1
    | 2 => injection hj with hj; subst hj; rw [← Blk.cell hB]; exact y2
    | n + 3 => simp at hj⟩
  refine (shl_c (some ⟨gy, 0, none⟩) cb [0, 0, 1] (W.drewN k) hd (by decide)).mono ?_
  rintro e w' ⟨g, l, rfl, hl, hv, hg, hb, hBl⟩
  have : l = [0, 0, 2147483648, 0] := row95 hl (by rw [hv]; rfl)
  subst this
  exact ⟨g, rfl, hg, hb, hBl⟩

/-- Behind 'v, u := shiftLeft(y, by)[:n], shiftLeft(x, by)'. -/
def PMid (W : World) (x : List UInt32) (v u : Value) (wx : World) : Prop :=
  ∃ (gv gu : Nat) (row : List UInt32), v = .slice (some ⟨gv, 0, none⟩) 3 4 ∧ u = .slice (some ⟨gu, 0, none⟩) (x.length + 1) (x.length + 1) ∧ Below W.heap.size W wx ∧ W.heap.size ≤ gv ∧ gv < gu ∧
    Blk wx gv 99 (rowOf [0, 0, 2147483648, 0]) ∧ Blk wx gu 99 (rowOf row) ∧ row.length = x.length + 1 ∧ val row = val x * 2147483648

/-- Behind the steps from the head down to place kk: the row's upper digits are nought, what is left is the same but for multiples of 2^95. -/
def PAt (W : World) (x : List UInt32) (gv gu go kk : Nat) (wr : World) : Prop :=
  Below W.heap.size W wr ∧ Blk wr gv 99 (rowOf [0, 0, 2147483648, 0]) ∧ (∃ out, Blk wr go 99 (rowOf out) ∧ out.length = x.length + 1) ∧
    ∃ row : List UInt32, Blk wr gu 99 (rowOf row) ∧ row.length = x.length + 1 ∧ (∃ t, row[kk + 2]? = some t ∧ t.toNat < 2147483648) ∧ (∀ j, kk + 2 < j → j < row.length → row[j]? = some 0) ∧
      ∃ Q, val row + Q * 39614081257132168796771975168 = val x * 2147483648

theorem p_start {W wx : World} {x : List UInt32} {gv gu : Nat} {row : List UInt32} (hL : 3 ≤ x.length) (hb : Below W.heap.size W wx) (hv : Blk wx gv 99 (rowOf [0, 0, 2147483648, 0])) (hu : Blk wx gu 99 (rowOf row)) (hlen : row.length = x.length + 1) (hval : val row = val x * 2147483648) :
    PAt W x gv gu wx.heap.size (x.length - 2) (wx.alloc (.cells (rowOf (List.replicate (x.length + 1) 0)) 99)) := by
  refine ⟨hb.alloc hb.size _, hv.alloc _, ⟨_, Blk.new _ _ _, by simp⟩, row, hu.alloc _, hlen, ?_, ?_, 0, by rw [hval]; omega⟩
  · obtain ⟨t, ht⟩ : ∃ t, row[x.length]? = some t := ⟨_, List.getElem?_eq_getElem (by omega)⟩
    refine ⟨t, by rw [show x.length - 2 + 2 = x.length by omega]; exact ht, ?_⟩
    have h1 := val_lt x
    have h2 : val row = val (row.take x.length) + 4294967296 ^ x.length * t.toNat := by
      rw [← val_take_succ row x.length t ht, List.take_of_length_le (by omega)]
    have h3 : 4294967296 ^ x.length * t.toNat < 4294967296 ^ x.length * 2147483648 := by
      have : val x * 2147483648 < 4294967296 ^ x.length * 2147483648 := Nat.mul_lt_mul_of_pos_right h1 (by omega)
      omega
    exact Nat.lt_of_mul_lt_mul_left h3
  · intro j hj hjl
    omega

/-- Within the subtraction of one step, behind i of its three digits. -/
def P5 (W : World) (x row out : List UInt32) (gv gu go k i : Nat) (t2 t3 c b : UInt32) (wr : World) : Prop :=
  Below W.heap.size W wr ∧ Blk wr gv 99 (rowOf [0, 0, 2147483648, 0]) ∧ Blk wr go 99 (rowOf out) ∧
    ((i ≤ 2 ∧ c = 0 ∧ b = 0 ∧ Blk wr gu 99 (rowOf row)) ∨ (i = 3 ∧ c = hi (shl31 (pq t2 t3)) ∧ b = top63 (sub32 t2 (lo (shl31 (pq t2 t3)))) ∧ Blk wr gu 99 (rowOf (row.set (k + 2) (pr t2 t3)))))
theorem below_drewN {B : Nat} {a w : World} (h : Below B a w) (n : Nat) : Below B a (w.drewN n) := ⟨h.os, h.tape, h.output, h.size, h.block⟩
theorem set_same {l : List UInt32} {k : Nat} {u : UInt32} (h : l[k]? = some u) : l.set k u = l := by
  apply List.ext_getElem?
  intro j
  by_cases e : j = k
  · subst e; rw [List.getElem?_set_self (List.getElem?_eq_some_iff.1 h).1, h]
  · rw [List.getElem?_set_ne (Ne.symm e)]
theorem p5_same {W : World} {x row out : List UInt32} {gv gu go k i j : Nat} {t2 t3 u : UInt32} {wr : World} (hb : Below W.heap.size W wr) (hv : Blk wr gv 99 (rowOf [0, 0, 2147483648, 0])) (ho : Blk wr go 99 (rowOf out)) (hu : Blk wr gu 99 (rowOf row))
    (hj : row[j]? = some u) (hi : i ≤ 2) (_h : True) (h1 : gv ≠ gu) (h2 : go ≠ gu) (h3 : W.heap.size ≤ gu ∧ W.heap.size ≤ go) :
    P5 W x row out gv gu go k i t2 t3 0 0 (wr.setCell ⟨gu, j, none⟩ (.int .u32 u.toNat)) := by
  refine ⟨hb.setCell h3.1 _, hv.far h1 _, ho.far h2 _, .inl ⟨hi, rfl, rfl, ?_⟩⟩
  have := hu.put_ j u
  rwa [set_same hj] at this
theorem p5_last {W : World} {x row out : List UInt32} {gv gu go k : Nat} {t2 t3 : UInt32} {wr : World} (hb : Below W.heap.size W wr) (hv : Blk wr gv 99 (rowOf [0, 0, 2147483648, 0])) (ho : Blk wr go 99 (rowOf out)) (hu : Blk wr gu 99 (rowOf row))
    (h1 : gv ≠ gu) (h2 : go ≠ gu) (h3 : W.heap.size ≤ gu ∧ W.heap.size ≤ go) :
    P5 W x row out gv gu go k 3 t2 t3 (hi (shl31 (pq t2 t3))) (top63 (sub32 t2 (lo (shl31 (pq t2 t3))))) (wr.setCell ⟨gu, k + 2, none⟩ (.int .u32 (pr t2 t3).toNat)) :=
  ⟨hb.setCell h3.1 _, hv.far h1 _, ho.far h2 _, .inr ⟨rfl, rfl, rfl, hu.put_ _ _⟩⟩
theorem p_next {W : World} {x row out : List UInt32} {gv gu go k Q : Nat} {t2 t3 : UInt32} {wr : World} (hb : Below W.heap.size W wr) (hv : Blk wr gv 99 (rowOf [0, 0, 2147483648, 0])) (ho : Blk wr go 99 (rowOf out)) (hu : Blk wr gu 99 (rowOf (row.set (k + 2) (pr t2 t3))))
    (e2 : row[k + 2]? = some t2) (e3 : row[k + 3]? = some t3) (h31 : t3.toNat < 2147483648) (hz : ∀ j, k + 1 + 2 < j → j < row.length → row[j]? = some 0) (hQ : val row + Q * 39614081257132168796771975168 = val x * 2147483648) (hol : out.length = x.length + 1) (hlen : row.length = x.length + 1)
    (h1 : gv ≠ gu) (h2 : go ≠ gu) (h3 : W.heap.size ≤ gu ∧ W.heap.size ≤ go) (_h : gv ≠ go) :
    PAt W x gv gu go k ((wr.setCell ⟨gu, k + 3, none⟩ (.int .u32 0)).setCell ⟨go, k, none⟩ (.int .u32 (pq t2 t3).toNat)) := by
  have hk3 : k + 3 < row.length := (List.getElem?_eq_some_iff.1 e3).1
  refine ⟨(hb.setCell h3.1 _).setCell h3.2 _, (hv.far h1 _).far (p := ⟨go, k, none⟩) ?_ _, ⟨out.set k (pq t2 t3), (ho.far h2 _).put_ _ _, by rw [List.length_set]; exact hol⟩, (row.set (k + 2) (pr t2 t3)).set (k + 3) 0, ?_, by rw [List.length_set, List.length_set]; exact hlen, ⟨pr t2 t3, ?_, ?_⟩, ?_, Q + 4294967296 ^ k * (pq t2 t3).toNat, ?_⟩
  · exact _h
  · exact (hu.put_ (k + 3) 0).far (p := ⟨go, k, none⟩) (Ne.symm h2) _
  · rw [List.getElem?_set_ne (by omega), List.getElem?_set_self (by omega)]
  · rw [pr_nat]; omega
  · intro j hj hjl
    rw [List.length_set, List.length_set] at hjl
    by_cases e : j = k + 3
    · subst e; rw [List.getElem?_set_self (by rw [List.length_set]; omega)]
    · rw [List.getElem?_set_ne (by omega), List.getElem?_set_ne (by omega)]
      exact hz j (by omega) hjl
  · exact div_step e2 e3 h31 hQ
theorem ndec (n : Nat) : decide ((n : Int) < 0) = false := decide_eq_false (by omega)
theorem quo_join3 (a b : UInt32) (h : b.toNat < 2147483648) : IntKind.u64.wrap (((join a b : Nat) : Int) / 2147483648) = ((pq a b).toNat : Int) := by
  have := quo_join a b h; rwa [Int.tdiv_eq_ediv_of_nonneg (by omega)] at this
attribute [local go_sem] ndec quo_join3 or_join or_join2 quo_join rem_join wide32 narrow32 small32 small63 wrapw subbed32 subbedw topped63 shl31ed shr32 low32 low_rest top_rest
def PDone (W : World) (x : List UInt32) (e : Ending) (W' : World) : Prop :=
  ∃ (go : Nat) (out : List UInt32) (g : Nat) (l : List UInt32), e = .returned (.tuple #[.slice (some ⟨go, 0, none⟩) (x.length + 1) (x.length + 1), .slice (some ⟨g, 0, none⟩) 3 3]) ∧ Below W.heap.size W W' ∧ Blk W' go 99 (rowOf out) ∧ out.length = x.length + 1 ∧ Blk W' g 99 (rowOf l) ∧ l.length = 3 ∧ val l = val x % 18446744073709551616
theorem rest_c {W wo : World} {x : List UInt32} {gv gu go : Nat} (h : PAt W x gv gu go 0 wo) (hM : x.length + 1 ≤ 35184372088832) :
    Calls Try.prog 71 #[.slice (some ⟨gu, 0, none⟩) 3 (x.length + 1), .int .i64 31] wo (Summed (val x % 18446744073709551616) 3 wo) := by
  obtain ⟨hb, hv, _, row, hu, hlen, ⟨t, ht, h31⟩, hz, Q, hQ⟩ := h
  have h2 : 2 < row.length := (List.getElem?_eq_some_iff.1 ht).1
  have hl3 : (row.take 3).length = 3 := by rw [List.length_take]; omega
  have hval : val row = val (row.take 3) := by
    conv => lhs; rw [← List.take_append_drop 3 row, val_append]
    rw [val_zeros (l := row.drop 3) (fun j u hj => by
      rw [List.getElem?_drop] at hj
      have hjl := (List.getElem?_eq_some_iff.1 hj).1
      rw [hz (3 + j) (by omega) hjl] at hj
      injection hj with hj; exact hj.symm)]
    omega
  have hlt : val (row.take 3) < 39614081257132168796771975168 := by
    rw [show (3 : Nat) = 2 + 1 from rfl, val_take_succ row 2 t ht]
    have := val_lt (row.take 2)
    rw [List.length_take, Nat.min_eq_left (by omega)] at this
    omega
  have hfin : val (sr31 (row.take 3)) = val x % 18446744073709551616 := by
    rw [sr31_val]
    rw [hval] at hQ
    omega
  have key := shiftRight31_c gu (x.length + 1) (row.take 3) t wo (by omega) (fun j u hj => hu.at_ (by
      rw [List.getElem?_take] at hj
      split at hj
      · exact hj
      · cases hj)) hu.lt (by rw [hl3]; omega) (by rw [hl3]; omega)
  rw [hl3] at key
  refine key.mono ?_
  rintro e w' ⟨g, rfl, hg, hb', hB⟩
  exact ⟨g, sr31 (row.take 3), by rw [sr31_len, hl3], by rw [sr31_len, hl3], hfin, hg, hb', hB⟩
theorem p_done {W wo w2 : World} {x l : List UInt32} {gv gu go g : Nat} (h : PAt W x gv gu go 0 wo) (hl : l.length = 3) (hv : val l = val x % 18446744073709551616) (hb : Below wo.heap.size wo w2) (hB : Blk w2 g 99 (rowOf l)) :
    PDone W x (.returned (.tuple #[.slice (some ⟨go, 0, none⟩) (x.length + 1) (x.length + 1), .slice (some ⟨g, 0, none⟩) 3 3])) w2 := by
  obtain ⟨hb0, _, ⟨out, ho, hol⟩, _⟩ := h
  exact ⟨go, out, g, l, rfl, hb0.trans (hb.mono hb0.size), ho.below hb ho.lt, hol, hB, hl, hv⟩

attribute [local go_sem ↓] Go.wp_at_zero Go.wp_at_succ
set_option maxRecDepth 100000 in
set_option maxHeartbeats 2000000 in
theorem parts_c (A : Option Addr) (gy ca cb : Nat) (x : List UInt32) (W : World) (hx : Dig W A x) (hL : 3 ≤ x.length) (hM : x.length + 1 ≤ 35184372088832) (hgy : ∃ cs, Blk W gy 99 cs)
    (y0 : W.cell? ⟨gy, 0, none⟩ = some (.int .u32 0)) (y1 : W.cell? ⟨gy, 1, none⟩ = some (.int .u32 0)) (y2 : W.cell? ⟨gy, 2, none⟩ = some (.int .u32 1)) :
    Calls Try.prog 104 #[.slice A x.length ca, .slice (some ⟨gy, 0, none⟩) 3 cb] W (PDone W x) := by
  go_enter Try.func104, Try.ntmps104
  go_wp2
  go_loop [9] (fun i => ∃ j : Nat, j ≤ 31 ∧ i = .int .i64 j) (fun i => 31 - (intOf i).toNat)
  case atStart => exact ⟨0, by omega, rfl⟩
  case round =>
    obtain ⟨j, hj, rfl⟩ := hrel
    by_cases hj2 : j < 31
    · have hp := pow_small j hj2
      go_wp2
      go_round
      case rel => exact ⟨j + 1, by omega, by go_num⟩
      case measure => simp [intOf]; omega
    · obtain rfl : j = 31 := by omega
      go_wp2
      go_cut [11, 12] (fun v u wx => PMid W x v u wx)
      case first =>
        go_region_with (first | (go_at_call_of 94 (Value.slice (some ⟨gy, 0, none⟩) 3 cb); refine (y_c gy cb _ W hgy y0 y1 y2).mono ?_; rintro e w1 ⟨gv, rfl, hgv, hb1, hB1⟩; have hx1 : Dig w1 A x := hx.keep fun g cs h => h.below (Below.undraw hb1) h.lt) | (go_at_call_of 94 (Value.slice A x.length ca); refine (shl_c _ _ x _ hx1 hM).mono ?_; rintro e w2 ⟨gu, row, rfl, hl, hv, hgu, hb2, hB2⟩; have HL := Lib.hid hl; have HV := Lib.hid hv; clear hl hv))
        all_goals go_wp2_with fail
        all_goals go_meet
        all_goals exact ⟨gv, gu, row, rfl, rfl, (Below.undraw hb1).trans (hb2.mono hb1.size), hgv, Nat.lt_of_lt_of_le hB1.lt hgu, hB1.below hb2 hB1.lt, hB2, HL.out, HV.out⟩
      case rest =>
        obtain ⟨gv, gu, row, rfl, rfl, hb, hgv, hgu, hBv, hBu, hlen, hval⟩ := hcut
        have hmk := make_c (x.length + 1) hM
        rw [show ((x.length + 1 : Nat) : Int) = (x.length : Int) + 1 by omega] at hmk
        have hguw := hBu.lt
        have hwc := hb.size
        have HS := Lib.hid (p_start hL hb hBv hBu hlen hval)
        clear hb hBv hBu hlen hval
        go_wp2
        go_loopw [14] (fun i wr => ∃ kk : Nat, kk ≤ x.length - 2 ∧ i = .int .i64 ((kk : Int) - 1) ∧ PAt W x gv gu wc.heap.size kk wr) (fun i _ => (intOf i + 1).toNat)
        case atStart => exact ⟨x.length - 2, Nat.le_refl _, by go_num, HS.out⟩
        case round =>
          obtain ⟨kk, hkk, rfl, hP⟩ := hrel
          obtain ⟨wo, rfl⟩ : ∃ wo : World, wo = wr := ⟨_, rfl⟩
          by_cases hk0 : 0 < kk
          · obtain ⟨k, rfl⟩ : ∃ k, kk = k + 1 := ⟨kk - 1, by omega⟩
            have hki : ((k + 1 : Nat) : Int) - 1 = (k : Int) := by omega
            rw [hki]
            clear hki
            obtain ⟨hb, hBv, ⟨out, hBo, hol⟩, row, hBu, hlen, ⟨t3, ht3, h31⟩, hz, Q, hQ⟩ := hP
            obtain ⟨t0, ht0⟩ : ∃ t, row[k]? = some t := ⟨_, List.getElem?_eq_getElem (by omega)⟩
            obtain ⟨t1, ht1⟩ : ∃ t, row[k + 1]? = some t := ⟨_, List.getElem?_eq_getElem (by omega)⟩
            obtain ⟨t2, ht2⟩ : ∃ t, row[k + 2]? = some t := ⟨_, List.getElem?_eq_getElem (by omega)⟩
            obtain ⟨o, ho⟩ : ∃ t, out[k]? = some t := ⟨_, List.getElem?_eq_getElem (by omega)⟩
            have u0 : wo.cell? ⟨gu, k, none⟩ = some (.int .u32 t0.toNat) := hBu.at_ ht0
            have u1 : wo.cell? ⟨gu, k + 1, none⟩ = some (.int .u32 t1.toNat) := hBu.at_ ht1
            have u2 : wo.cell? ⟨gu, k + 2, none⟩ = some (.int .u32 t2.toNat) := hBu.at_ ht2
            have u3 : wo.cell? ⟨gu, k + 3, none⟩ = some (.int .u32 t3.toNat) := hBu.at_ ht3
            have v0 : wo.cell? ⟨gv, 0, none⟩ = some (.int .u32 0) := hBv.at_ (k := 0) rfl
            have v1 : wo.cell? ⟨gv, 1, none⟩ = some (.int .u32 0) := hBv.at_ (k := 1) rfl
            have v2 : wo.cell? ⟨gv, 2, none⟩ = some (.int .u32 2147483648) := hBv.at_ (k := 2) rfl
            have hk3 : (k : Int) + 3 < (x.length : Int) + 1 := by omega
            have HT := Lib.hid (And.intro ht0 (And.intro ht1 (And.intro ht2 (And.intro ht3 (And.intro ho (And.intro h31 (And.intro hz hQ)))))))
            have HO := Lib.hid (And.intro hol hlen)
            clear ht0 ht1 ht2 ht3 ho h31 hz hQ hol hlen
            have hgvu : gv ≠ gu := by omega
            have hgou : wc.heap.size ≠ gu := by omega
            have hgvo : gv ≠ wc.heap.size := by omega
            have hgW : W.heap.size ≤ gu ∧ W.heap.size ≤ wc.heap.size := ⟨by omega, hwc⟩
            have h31 : t3.toNat < 2147483648 := HT.out.2.2.2.2.2.1
            go_wp2
            go_quiet (fail)
            go_wp2
            go_quiet (fail)
            go_wp2
            go_loopw [16, 17] (fun q r wr => q = .int .u64 (pq t2 t3).toNat ∧ r = .int .u64 (pr t2 t3).toNat ∧ ∃ nq, wr = wo.drewN nq) (fun _ _ _ => 0)
            case atStart => exact ⟨rfl, rfl, _, drewN2 _ _ _⟩
            case round =>
              obtain ⟨rfl, rfl, nq', rfl⟩ := hrel
              go_wp2
              go_quiet (fail)
              go_wp2
              go_loopw [18, 19, 174] (fun c b i wr => ∃ (ii : Nat) (cc bb : UInt32), ii ≤ 3 ∧ i = .int .i64 ii ∧ c = .int .u64 cc.toNat ∧ b = .int .u64 bb.toNat ∧ P5 W x row out gv gu wc.heap.size k ii t2 t3 cc bb wr) (fun _ _ i _ => 3 - (intOf i).toNat)
              case atStart => exact ⟨0, 0, 0, by omega, rfl, rfl, rfl, below_drewN hb _, hBv, hBo, .inl ⟨by omega, rfl, rfl, hBu⟩⟩
              case round =>
                obtain ⟨ii, cc, bb, hii, rfl, rfl, rfl, hb5, hBv5, hBo5, h5⟩ := hrel
                have v0' : wr.cell? ⟨gv, 0, none⟩ = some (.int .u32 0) := hBv5.at_ (k := 0) rfl
                have v1' : wr.cell? ⟨gv, 1, none⟩ = some (.int .u32 0) := hBv5.at_ (k := 1) rfl
                have v2' : wr.cell? ⟨gv, 2, none⟩ = some (.int .u32 2147483648) := hBv5.at_ (k := 2) rfl
                rcases h5 with ⟨hi2, rfl, rfl, hB5⟩ | ⟨rfl, rfl, rfl, hB5⟩
                · have w0 : wr.cell? ⟨gu, k, none⟩ = some (.int .u32 t0.toNat) := hB5.at_ HT.out.1
                  have w1 : wr.cell? ⟨gu, k + 1, none⟩ = some (.int .u32 t1.toNat) := hB5.at_ HT.out.2.1
                  have w2 : wr.cell? ⟨gu, k + 2, none⟩ = some (.int .u32 t2.toNat) := hB5.at_ HT.out.2.2.1
                  have x0 : wr.frozen? ⟨gu, k, none⟩ = false := hB5.frozen _
                  have x1 : wr.frozen? ⟨gu, k + 1, none⟩ = false := hB5.frozen _
                  have x2 : wr.frozen? ⟨gu, k + 2, none⟩ = false := hB5.frozen _
                  rcases (by omega : ii = 0 ∨ ii = 1 ∨ ii = 2) with rfl | rfl | rfl
                  · have HN := Lib.hid (p5_same (x := x) (k := k) (t2 := t2) (t3 := t3) (u := t0) (j := k) (i := 1) hb5 hBv5 hBo5 hB5 HT.out.1 (by omega) trivial hgvu hgou hgW)
                    clear hb5 hBv5 hBo5 hB5
                    go_wp2
                    go_roundw
                    case rel => exact ⟨1, 0, 0, by omega, by go_num, rfl, rfl, HN.out⟩
                    case measure => simp [intOf]
                  · have HN := Lib.hid (p5_same (x := x) (k := k) (t2 := t2) (t3 := t3) (u := t1) (j := k + 1) (i := 2) hb5 hBv5 hBo5 hB5 HT.out.2.1 (by omega) trivial hgvu hgou hgW)
                    clear hb5 hBv5 hBo5 hB5
                    go_wp2
                    go_roundw
                    case rel => exact ⟨2, 0, 0, by omega, by go_num, rfl, rfl, HN.out⟩
                    case measure => simp [intOf]
                  · have HN := Lib.hid (p5_last hb5 hBv5 hBo5 hB5 hgvu hgou hgW : P5 W x row out gv gu wc.heap.size k 3 t2 t3 _ _ _)
                    clear hb5 hBv5 hBo5 hB5
                    go_wp2
                    go_roundw
                    case rel => exact ⟨3, _, _, by omega, by go_num, rfl, rfl, HN.out⟩
                    case measure => simp [intOf]
                · have y3 : wr.cell? ⟨gu, k + 3, none⟩ = some (.int .u32 t3.toNat) := hB5.at_ (by rw [List.getElem?_set_ne (by omega)]; exact HT.out.2.2.2.1)
                  have g3 : wr.frozen? ⟨gu, k + 3, none⟩ = false := hB5.frozen _
                  have o3 : (wr.setCell ⟨gu, k + 3, none⟩ (.int .u32 0)).cell? ⟨wc.heap.size, k, none⟩ = some (.int .u32 o.toNat) := by
                    rw [World.cell?_setCell_other _ _ _ _ (by intro h; injection h with h _; omega)]
                    exact hBo5.at_ HT.out.2.2.2.2.1
                  have p3 : wr.frozen? ⟨wc.heap.size, k, none⟩ = false := hBo5.frozen _
                  have HN := Lib.hid (p_next (Q := Q) hb5 hBv5 hBo5 hB5 HT.out.2.2.1 HT.out.2.2.2.1 h31 HT.out.2.2.2.2.2.2.1 HT.out.2.2.2.2.2.2.2 HO.out.1 HO.out.2 hgvu hgou hgW hgvo)
                  clear hb5 hBv5 hBo5 hB5
                  go_wp2
                  go_roundw
                  case rel => exact ⟨k, by omega, rfl, HN.out⟩
                  case measure => simp [intOf]
          · obtain rfl : kk = 0 := by omega
            have HR := Lib.hid (rest_c hP hM)
            have HD := Lib.hid hP
            clear hP
            go_wp2_with fail
            refine HR.out.mono ?_
            rintro e w2 ⟨g, l, rfl, hl, hv, hgg, hb2, hB2⟩
            have HF := Lib.hid (p_done HD.out hl hv hb2 hB2)
            clear hl hv hb2 hB2
            go_wp2_with fail
            go_ret2
            exact HF.out
end Go.Proofs.Ytcbecpgllebepaa.Big

namespace Go.Proofs.Ytcbecpgllebepaa.Big
set_option linter.unusedVariables false
open Go.RowKit
attribute [local go_sem ↓] Go.wp_at_zero Go.wp_at_succ

set_option maxHeartbeats 2000000 in
theorem lsh_c (z p n : Nat) (W : World) (hz : Slot W z) (hp : Num W p n) (hn : (digs n).length + 1 ≤ 35184372088832) :
    Calls Try.prog 74 #[.pointer (some ⟨z, 0, none⟩), .pointer (some ⟨p, 0, none⟩), .int .u64 31] W (Trimmed z (n * 2147483648) W) := by
  obtain ⟨A, cap, c0, c1, hcap, hd⟩ := hp.facts
  obtain ⟨s, A', l', c', z0, z1, f0, f1, hlt⟩ := hz.facts
  have hpl := hp.lt
  have hfin : val (digs n) * 2147483648 = n * 2147483648 := by rw [val_digs]
  have HF := Lib.hid hfin
  clear hfin hp
  generalize digs n = a at *
  go_enter Try.func74, Try.ntmps74
  go_wp2
  have hL : a.length + 1 ≤ 4611686018427387904 := by omega
  go_region_with (go_at_call 94; refine (shl_c _ _ a _ (hd.drewN _) hn).mono ?_; rintro e w1 ⟨g, row, rfl, hl, hv, hge, hb, hB⟩; have k0 : w1.cell? ⟨p, 0, none⟩ = some (.bool false) := (hb.cell (p := ⟨p, 0, none⟩) hpl).trans c0; have hz1 : Slot w1 z := (hz.drewN _).below hb; obtain ⟨s1, A1, l1, cc1, y0, y1, j0, j1, hlt1⟩ := hz1.facts; have HL := Lib.hid hl; have HV := Lib.hid hv; have HB := Lib.hid hb; clear hl hv hb)
  all_goals go_wp2_with fail
  all_goals
    refine (mid_trim (z := z) (V := n * 2147483648) (L := a.length + 1) (W := W) ⟨w1, g, 0, row, Below.undraw (k := 1) HB.out, hz1, hB, HL.out, HV.out.trans HF.out, rfl⟩ hL).mono ?_
    intro e w2 h
    have H := Lib.hid h
    obtain ⟨rfl, _⟩ := h
    go_wp2_with fail
    go_ret
    exact H.out
theorem shl64_drew (g ca k : Nat) (W : World) (hg : g < W.heap.size) (hx : W.cell? ⟨g, 0, none⟩ = some (.int .u32 1)) :
    Calls Try.prog 94 #[.slice (some ⟨g, 0, none⟩) 1 ca, .int .i64 64] (W.drewN k) (Summed 18446744073709551616 4 (W.drewN k)) := shl64_c g ca (W.drewN k) hg hx
theorem appended_below {W w1 : World} {k : Nat} {o : Obj} (h : ((W.alloc o).drewN k).grownBy w1 (some W.heap.size)) : Below W.heap.size W w1 :=
  below_of_new (only_trans (only_drewN (only_alloc (only_refl W (some W.heap.size)) o) k) h) (Nat.le_refl _) (Nat.le_refl _)
theorem digs_one : digs 1 = [1] := by rw [digs_pos (by decide), show 1 / 4294967296 = 0 by decide, digs_zero]; rfl

set_option maxHeartbeats 2000000 in
theorem lsh64_c (z p : Nat) (W : World) (hz : Slot W z) (hp : Num W p 1) :
    Calls Try.prog 74 #[.pointer (some ⟨z, 0, none⟩), .pointer (some ⟨p, 0, none⟩), .int .u64 64] W (Trimmed z 18446744073709551616 W) := by
  obtain ⟨A, cap, c0, c1, hcap, hd⟩ := hp.facts
  obtain ⟨s, A', l', c', z0, z1, f0, f1, hlt⟩ := hz.facts
  have hpl := hp.lt
  rw [digs_one] at c1 hcap hd
  simp only [List.length_cons, List.length_nil, Nat.zero_add] at c1
  obtain ⟨g0, cs0, u0, rfl, hbk0, hu0, hc0⟩ := hd.at_ (k := 0) (by simp)
  obtain rfl : u0 = 1 := by injection hu0 with h; exact h.symm
  have hc0' : W.cell? ⟨g0, 0, none⟩ = some (.int .u32 1) := hc0
  have hg0 := hbk0.lt
  clear hp hc0 hu0
  go_enter Try.func74, Try.ntmps74
  go_wp2
  have hL : 4 ≤ 4611686018427387904 := by omega
  go_region_with (go_at_call 94; refine (shl64_drew g0 _ _ W hg0 hc0').mono ?_; rintro e w1 ⟨g, row, rfl, hl, hv, hge, hb, hB⟩; have k0 : w1.cell? ⟨p, 0, none⟩ = some (.bool false) := (hb.cell (p := ⟨p, 0, none⟩) hpl).trans c0; have hz1 : Slot w1 z := (hz.drewN _).below hb; obtain ⟨s1, A1, l1, cc1, y0, y1, j0, j1, hlt1⟩ := hz1.facts; have HL := Lib.hid hl; have HV := Lib.hid hv; have HB := Lib.hid hb; clear hl hv hb)
  all_goals go_wp2_with fail
  all_goals
    refine (mid_trim (z := z) (V := 18446744073709551616) (L := 4) (W := W) ⟨w1, g, 0, row, Below.undraw (k := 1) HB.out, hz1, hB, HL.out, HV.out, rfl⟩ hL).mono ?_
    intro e w2 h
    have H := Lib.hid h
    obtain ⟨rfl, _⟩ := h
    go_wp2_with fail
    go_ret
    exact H.out

end Go.Proofs.Ytcbecpgllebepaa.Big

namespace Go.Proofs.Ytcbecpgllebepaa.Big
set_option linter.unusedVariables false
open Go.RowKit
attribute [local go_sem ↓] Go.wp_at_zero Go.wp_at_succ

theorem set_end {W w1 : World} {z g cap n : Nat} {a : List UInt32} (hz : Slot w1 z) (hrow : Row w1 g a) (hc : a.length ≤ cap) (hb : Below W.heap.size W w1) (ha : digs n = a) :
    W.grownBy (stored w1 z false (.slice (some ⟨g, 0, none⟩) a.length cap)) (some z) ∧ Num (stored w1 z false (.slice (some ⟨g, 0, none⟩) a.length cap)) z n := by
  subst ha
  exact ⟨only_trans (only_of_below hb (some z)) (stored_grown w1 z false _), some ⟨g, 0, none⟩, cap, stored_cell hz false _ _ _, dig_stored hz hrow.dig false _, hc⟩

set_option maxHeartbeats 2000000 in
theorem set_c (z p n : Nat) (W : World) (hz : Slot W z) (hp : Num W p n) (hn : (digs n).length ≤ 35184372088832) :
    Calls Try.prog 101 #[.pointer (some ⟨z, 0, none⟩), .pointer (some ⟨p, 0, none⟩)] W fun e W' => e = .returned (.pointer (some ⟨z, 0, none⟩)) ∧ W.grownBy W' (some z) ∧ Num W' z n := by
  obtain ⟨A, cap, c0, c1, hcap, hd⟩ := hp.facts
  obtain ⟨s, A', l', c', z0, z1, f0, f1, hlt⟩ := hz.facts
  have hpl := hp.lt
  obtain ⟨a, ha⟩ : ∃ a, digs n = a := ⟨_, rfl⟩
  have HA := Lib.hid ha
  rw [ha] at c1 hcap hd hn
  clear hp ha
  go_enter Try.func101, Try.ntmps101
  go_wp2
  go_region_law ((refine step_append_digs _ (by rfl) (.tmp 11) (.tmp 15) (by rfl) W.heap.size cap A a (by rfl) (by rfl) (Blk.new W _ _) (hd.keep fun g cs h => h.alloc _) hn ?_; intro g cap' w1 hc1 hrow hgr hge; have hb : Below W.heap.size W w1 := appended_below (k := 1) hgr; have k0 : w1.cell? ⟨p, 0, none⟩ = some (.bool false) := (hb.cell (p := ⟨p, 0, none⟩) hpl).trans c0; have hz1 : Slot w1 z := hz.below hb; obtain ⟨s1, A1, l1, cc1, y0, y1, j0, j1, hlt1⟩ := hz1.facts; clear hb))
  all_goals go_wp2_with fail
  all_goals
    go_ret
    exact ⟨rfl, set_end hz1 hrow hc1 (appended_below (k := 1) hgr) HA.out⟩
end Go.Proofs.Ytcbecpgllebepaa.Big

namespace Go.Proofs.Ytcbecpgllebepaa.Big
set_option linter.unusedVariables false
open Go.RowKit

/-- Of what was there only blocks z and r have turned. -/
structure Only2 (W W' : World) (z r : Nat) : Prop where
  os : W'.os = W.os
  tape : W'.tape = W.tape
  output : W'.output = W.output
  size : W.heap.size ≤ W'.heap.size
  block : ∀ i, i < W.heap.size → i ≠ z → i ≠ r → W'.heap[i]? = W.heap[i]?
theorem Only2.refl (W : World) (z r : Nat) : Only2 W W z r := ⟨rfl, rfl, rfl, Nat.le_refl _, fun _ _ _ _ => rfl⟩
theorem Only2.left {W a b : World} {z r : Nat} (h : Only2 W a z r) (k : a.grownBy b (some z)) : Only2 W b z r :=
  ⟨k.os.trans h.os, k.tape.trans h.tape, k.output.trans h.output, Nat.le_trans h.size k.size, fun i hi h1 h2 => (k.block i (Nat.lt_of_lt_of_le hi h.size) (by intro e; injection e with e; exact h1 e)).trans (h.block i hi h1 h2)⟩
theorem Only2.right {W a b : World} {z r : Nat} (h : Only2 W a z r) (k : a.grownBy b (some r)) : Only2 W b z r :=
  ⟨k.os.trans h.os, k.tape.trans h.tape, k.output.trans h.output, Nat.le_trans h.size k.size, fun i hi h1 h2 => (k.block i (Nat.lt_of_lt_of_le hi h.size) (by intro e; injection e with e; exact h2 e)).trans (h.block i hi h1 h2)⟩
theorem Only2.below {W a b : World} {z r : Nat} (h : Only2 W a z r) (k : Below a.heap.size a b) : Only2 W b z r :=
  ⟨k.os.trans h.os, k.tape.trans h.tape, k.output.trans h.output, Nat.le_trans h.size k.size, fun i hi h1 h2 => (k.block i (Nat.lt_of_lt_of_le hi h.size)).trans (h.block i hi h1 h2)⟩
theorem Only2.drewN {W a : World} {z r : Nat} (h : Only2 W a z r) (k : Nat) : Only2 W (a.drewN k) z r := ⟨h.os, h.tape, h.output, h.size, h.block⟩
theorem Slot.grown {w w' : World} {z p : Nat} (h : Slot w p) (hg : w.grownBy w' (some z)) (hne : p ≠ z) : Slot w' p := by
  obtain ⟨a, b, h1, ha, hb⟩ := h
  exact ⟨a, b, h1.grown hg (by intro e; injection e with e; exact hne e), ha, hb⟩
theorem stored_slot {w : World} {z : Nat} (hz : Slot w z) (s : Bool) (A : Option Addr) (l c : Nat) : Slot (stored w z s (.slice A l c)) z := ⟨_, _, stored_cell hz s A l c, ⟨_, rfl⟩, _, _, _, rfl⟩
theorem Num.slotgrown {w w' : World} {p n z : Nat} (h : Num w p n) (hg : w.grownBy w' (some z)) (hz : Slot w z) (hne : p ≠ z) : Num w' p n := by
  obtain ⟨a, b, h1, _⟩ := hz
  exact h.grown hg h1 hne

theorem Slot.cellgrown {w : World} {z r : Nat} {s : Bool} {v : Value} (hr : Slot w r) (hne : z ≠ r) : (stored w z s v).cell? ⟨r, 0, none⟩ = w.cell? ⟨r, 0, none⟩ ∧ (stored w z s v).cell? ⟨r, 1, none⟩ = w.cell? ⟨r, 1, none⟩ :=
  ⟨World.cell?_of_block ((stored_grown w z s v).block r hr.lt (by intro e; injection e with e; exact hne e.symm)), World.cell?_of_block ((stored_grown w z s v).block r hr.lt (by intro e; injection e with e; exact hne e.symm))⟩
def QR (z r m : Nat) (W : World) (e : Ending) (W' : World) : Prop :=
  e = .returned (.tuple #[.pointer (some ⟨z, 0, none⟩), .pointer (some ⟨r, 0, none⟩)]) ∧ Only2 W W' z r ∧ Num W' r m ∧ ∃ k, Num W' z k

def both (w : World) (z r go g n m : Nat) : World := stored (stored w z false (.slice (some ⟨go, 0, none⟩) n n)) r false (.slice (some ⟨g, 0, none⟩) m m)
theorem both_cells {w : World} {z r go g n m : Nat} (hz : Slot w z) (hr : Slot w r) (hne : z ≠ r) : Cell (both w z r go g n m) z false (some ⟨go, 0, none⟩) n n ∧ Cell (both w z r go g n m) r false (some ⟨g, 0, none⟩) m m := by
  refine ⟨?_, stored_cell (Slot.grown hr (stored_grown w z false _) (Ne.symm hne)) false _ _ _⟩
  exact Blk.grown (stored_cell hz false (some ⟨go, 0, none⟩) n n) (stored_grown _ r false _) (by intro e; injection e with e; exact hne e)
theorem both_dig {w : World} {z r go g n m : Nat} (hz : Slot w z) (hr : Slot w r) (hne : z ≠ r) {A : Option Addr} {ds : List UInt32} (h : Dig w A ds) : Dig (both w z r go g n m) A ds :=
  dig_stored (Slot.grown hr (stored_grown w z false _) (Ne.symm hne)) (dig_stored hz h false _) false _
theorem both_one {w : World} {z r go g : Nat} {out l : List UInt32} (hz : Slot w z) (hr : Slot w r) (hne : z ≠ r) (ho : Blk w go 99 (rowOf out)) (hl : Blk w g 99 (rowOf l)) (hM : out.length ≤ 4611686018427387904) :
    Calls Try.prog 67 #[.pointer (some ⟨z, 0, none⟩)] (both w z r go g out.length l.length) (Trimmed z (val out) (both w z r go g out.length l.length)) :=
  trim_c z out.length _ out _ (both_cells hz hr hne).1 (both_dig hz hr hne ho.dig) (Nat.le_refl _) hM
theorem both_two {w w3 : World} {z r go g : Nat} {out l : List UInt32} {e : Ending} (hz : Slot w z) (hr : Slot w r) (hne : z ≠ r) (hl : Blk w g 99 (rowOf l)) (hM : l.length ≤ 4611686018427387904) (h : Trimmed z (val out) (both w z r go g out.length l.length) e w3) :
    Calls Try.prog 67 #[.pointer (some ⟨r, 0, none⟩)] w3 (Trimmed r (val l) w3) := by
  have hc := both_cells (go := go) (g := g) (n := out.length) (m := l.length) hz hr hne
  refine trim_c r l.length (some ⟨g, 0, none⟩) l w3 (Blk.grown hc.2 h.2.1 (by intro e; injection e with e; exact hne e.symm)) ?_ (Nat.le_refl _) hM
  refine (both_dig (go := go) (g := g) (n := out.length) (m := l.length) hz hr hne hl.dig).keep fun g' cs hg => hg.grown h.2.1 (by
    intro e
    injection e with e
    subst e
    exact absurd rfl (Blk.ne_ hg hc.1 (by decide)))
theorem both_end {W w w3 w4 : World} {z r go g : Nat} {out l : List UInt32} {e e' : Ending} (hz : Slot w z) (hr : Slot w r) (hne : z ≠ r) (hb : Below W.heap.size W w) (h : Trimmed z (val out) (both w z r go g out.length l.length) e w3) (h' : Trimmed r (val l) w3 e' w4) :
    QR z r (val l) W (.returned (.tuple #[.pointer (some ⟨z, 0, none⟩), .pointer (some ⟨r, 0, none⟩)])) w4 := by
  have hr3 : Slot w3 r := Slot.grown ⟨_, _, (both_cells (go := go) (g := g) (n := out.length) (m := l.length) hz hr hne).2, ⟨_, rfl⟩, _, _, _, rfl⟩ h.2.1 (Ne.symm hne)
  exact ⟨rfl, (((((Only2.refl W z r).below hb).left (stored_grown w z false _)).right (stored_grown _ r false _)).left h.2.1).right h'.2.1, h'.2.2, _, h.2.2.slotgrown h'.2.1 hr3 hne⟩

theorem digs_264 : digs 18446744073709551616 = [0, 0, 1] := by
  rw [digs_pos (by decide), show 18446744073709551616 / 4294967296 = 4294967296 by decide, digs_pos (by decide), show 4294967296 / 4294967296 = 1 by decide, digs_one]
  rfl

set_option maxHeartbeats 2000000 in
theorem qr_small (z p q r n : Nat) (W : World) (hz : Slot W z) (hr : Slot W r) (hp : Num W p n) (hq : Num W q 18446744073709551616) (hn : n < 18446744073709551616) (hzr : z ≠ r) (hpz : p ≠ z) (hpr : p ≠ r) :
    Calls Try.prog 102 #[.pointer (some ⟨z, 0, none⟩), .pointer (some ⟨p, 0, none⟩), .pointer (some ⟨q, 0, none⟩), .pointer (some ⟨r, 0, none⟩)] W (QR z r n W) := by
  have hlen : (digs n).length ≤ 2 := digs_len (k := 2) (by omega)
  have hl2 : (digs n).length ≤ 35184372088832 := by omega
  have key := cmp_c p q n 18446744073709551616 W hp hq hl2 (by rw [digs_264]; simp)
  have hcm : cmpInt n 18446744073709551616 = -1 := cmp_lt hn
  unfold Cmps at key
  rw [hcm] at key
  have KEY := Lib.hid key
  clear key hcm hlen hn
  go_enter Try.func102, Try.ntmps102
  go_wp2_with fail
  refine KEY.out.mono ?_
  rintro e w1 ⟨rfl, k, rfl⟩
  go_wp2_with fail
  refine (set_c r p n (W.drewN k) hr hp hl2).mono ?_
  rintro e w2 ⟨rfl, hg2, hr2⟩
  have hz2 : Slot w2 z := Slot.grown (w := W.drewN k) hz hg2 hzr
  go_wp2_with fail
  refine (setInt64_c z 0 (by omega) w2 hz2).mono ?_
  intro e w3 h3
  have HF := Lib.hid (show QR z r n W (.returned (.tuple #[.pointer (some ⟨z, 0, none⟩), .pointer (some ⟨r, 0, none⟩)])) w3 from
    ⟨rfl, (((Only2.refl W z r).drewN k).right hg2).left h3.2.1, hr2.slotgrown h3.2.1 hz2 (Ne.symm hzr), 0, h3.2.2⟩)
  obtain ⟨rfl, _⟩ := h3
  go_wp2_with fail
  go_ret2
  exact HF.out

set_option maxRecDepth 100000 in
set_option maxHeartbeats 4000000 in
theorem qr_large (z p q r n : Nat) (W : World) (hz : Slot W z) (hr : Slot W r) (hp : Num W p n) (hq : Num W q 18446744073709551616) (hn : 18446744073709551616 ≤ n) (hM : (digs n).length + 1 ≤ 35184372088832) (hzr : z ≠ r) (hpz : p ≠ z) (hpr : p ≠ r) :
    Calls Try.prog 102 #[.pointer (some ⟨z, 0, none⟩), .pointer (some ⟨p, 0, none⟩), .pointer (some ⟨q, 0, none⟩), .pointer (some ⟨r, 0, none⟩)] W (QR z r (n % 18446744073709551616) W) := by
  have hlen : 3 ≤ (digs n).length := by
    rcases Nat.lt_or_ge (digs n).length 3 with h | h
    · have h1 := val_lt (digs n)
      rw [val_digs] at h1
      have h2 : 4294967296 ^ (digs n).length ≤ 4294967296 ^ 2 := Nat.pow_le_pow_right (by omega) (by omega)
      omega
    · exact h
  have key := cmp_c p q n 18446744073709551616 W hp hq (by omega) (by rw [digs_264]; simp)
  have hcm : ∃ c : Int, cmpInt n 18446744073709551616 = c ∧ 0 ≤ c := by
    unfold cmpInt
    rw [if_neg (by omega)]
    split
    · exact ⟨0, rfl, by omega⟩
    · exact ⟨1, rfl, by omega⟩
  obtain ⟨c, hc, hc0⟩ := hcm
  unfold Cmps at key
  rw [hc] at key
  have KEY := Lib.hid key
  obtain ⟨A, cap, c0, c1, hcap, hd⟩ := hp.facts
  obtain ⟨B, capB, e0, e1, hcapB, he⟩ := hq.facts
  rw [digs_264] at e1 he
  simp only [List.length_cons, List.length_nil, Nat.zero_add, Nat.reduceAdd] at e1
  obtain ⟨gy, cy, u0, rfl, hby, hu0, y0⟩ := he.at_ (k := 0) (by simp)
  obtain ⟨gy', _, u1, hgy1, _, hu1, y1⟩ := he.at_ (k := 1) (by simp)
  obtain rfl : gy = gy' := by injection hgy1 with hgy1; injection hgy1
  obtain ⟨gy'', _, u2, hgy2, _, hu2, y2⟩ := he.at_ (k := 2) (by simp)
  obtain rfl : gy = gy'' := by injection hgy2 with hgy2; injection hgy2
  obtain rfl : u0 = 0 := by injection hu0 with h; exact h.symm
  obtain rfl : u1 = 0 := by injection hu1 with h; exact h.symm
  obtain rfl : u2 = 1 := by injection hu2 with h; exact h.symm
  have HV := Lib.hid (val_digs n)
  have hpl := hp.lt
  clear key hc hu0 hu1 hu2 hgy1 hgy2 hp hq
  generalize digs n = a at *
  have ha3 : ¬ ((a.length : Int) < 3) := by omega
  have ha4 : decide ((a.length : Int) < 3) = false := decide_eq_false ha3
  go_enter Try.func102, Try.ntmps102
  go_wp2_with fail
  refine KEY.out.mono ?_
  rintro e w1 ⟨rfl, k, rfl⟩
  go_wp2
  go_quiet (fail)
  go_wp2
  go_region_with (go_at_call 104; refine (parts_c A gy cap capB a _ (hd.drewN _) hlen hM ⟨cy, hby⟩ y0 y1 y2).mono ?_; rintro e w2 ⟨go, out, g, l, rfl, hb2, hBo, hol, hBl, hll, hv⟩; have hz2 : Slot w2 z := (hz.drewN _).below hb2; have hr2 : Slot w2 r := (hr.drewN _).below hb2; obtain ⟨s1, A1, l1, cc1, i0, i1, j0, j1, hlt1⟩ := hz2.facts; obtain ⟨s3, A3, l3, cc3, m0, m1, n0, n1, hlt3⟩ := hr2.facts)
  all_goals
    have hb0 : Below W.heap.size W w2 := Below.undraw hb2
    have HG := Lib.hid hb0
    have HL := Lib.hid hll
    have HO := Lib.hid hol
    have HW := Lib.hid hv
    clear hb0 hb2 hll hol hv
    have hrz : r ≠ z := Ne.symm hzr
    go_wp2_with fail
    have k1 := both_one hz2 hr2 hzr hBo hBl (by rw [HO.out]; omega)
    have K2 := Lib.hid (fun (e3 : Ending) (w3 : World) (h : Trimmed z (val out) (both w2 z r go g out.length l.length) e3 w3) => both_two hz2 hr2 hzr hBl (by rw [HL.out]; omega) h)
    have K3 := Lib.hid (fun (e3 e4 : Ending) (w3 w4 : World) (h : Trimmed z (val out) (both w2 z r go g out.length l.length) e3 w3) (h' : Trimmed r (val l) w3 e4 w4) => both_end (go := go) (g := g) hz2 hr2 hzr HG.out h h')
    rw [HO.out, HL.out] at k1
    refine k1.mono ?_
    intro e3 w3 h3
    rw [← HO.out, ← HL.out] at h3
    have H3 := Lib.hid h3
    obtain ⟨rfl, _⟩ := h3
    clear k1
    go_wp2_with fail
    refine (K2.out _ _ H3.out).mono ?_
    intro e4 w4 h4
    have hfin := K3.out _ _ _ _ H3.out h4
    rw [HW.out, HV.out] at hfin
    have HF := Lib.hid hfin
    obtain ⟨rfl, _⟩ := h4
    clear hfin
    go_wp2_with fail
    go_ret2
    exact HF.out
end Go.Proofs.Ytcbecpgllebepaa.Big

namespace Go.Proofs.Ytcbecpgllebepaa.Big
set_option linter.unusedVariables false
open Go.RowKit

theorem qr_any (z p q r n : Nat) (W : World) (hz : Slot W z) (hr : Slot W r) (hp : Num W p n) (hq : Num W q 18446744073709551616) (hM : (digs n).length + 1 ≤ 35184372088832) (hzr : z ≠ r) (hpz : p ≠ z) (hpr : p ≠ r) :
    Calls Try.prog 102 #[.pointer (some ⟨z, 0, none⟩), .pointer (some ⟨p, 0, none⟩), .pointer (some ⟨q, 0, none⟩), .pointer (some ⟨r, 0, none⟩)] W (QR z r (n % 18446744073709551616) W) := by
  rcases Nat.lt_or_ge n 18446744073709551616 with h | h
  · rw [Nat.mod_eq_of_lt h]; exact qr_small z p q r n W hz hr hp hq h hzr hpz hpr
  · exact qr_large z p q r n W hz hr hp hq h hM hzr hpz hpr

set_option maxHeartbeats 2000000 in
theorem divMod_c (z p q r n : Nat) (W : World) (hz : Slot W z) (hr : Slot W r) (hp : Num W p n) (hq : Num W q 18446744073709551616) (hM : (digs n).length + 1 ≤ 35184372088832) (hzr : z ≠ r) (hpz : p ≠ z) (hpr : p ≠ r) (hqz : q ≠ z) (hqr : q ≠ r) :
    Calls Try.prog 93 #[.pointer (some ⟨z, 0, none⟩), .pointer (some ⟨p, 0, none⟩), .pointer (some ⟨q, 0, none⟩), .pointer (some ⟨r, 0, none⟩)] W (QR z r (n % 18446744073709551616) W) := by
  have hql : q < W.heap.size := hq.lt
  have hpl := hp.lt
  have hzl := hz.lt
  have hrl := hr.lt
  have hq1 : Num (W.alloc (.cells #[.bool false, .slice none 0 0] 84)) q 18446744073709551616 := hq.alloc _
  have h2 : (digs 18446744073709551616).length ≤ 35184372088832 := by rw [digs_264]; simp
  have HQ := Lib.hid hq1
  have H2 := Lib.hid h2
  clear hq1 h2
  go_enter Try.func93, Try.ntmps93
  go_wp2_with fail
  refine (set_c W.heap.size q 18446744073709551616 _ (Slot.new W) HQ.out H2.out).mono ?_
  rintro e w1 ⟨rfl, hg, hd⟩
  have hb : Below W.heap.size W w1 := below_of_new (only_trans (only_alloc (only_refl W (some W.heap.size)) _) hg) (Nat.le_refl _) (Nat.le_refl _)
  have hz1 := hz.below hb
  have hr1 := hr.below hb
  have hp1 := hp.below hb
  have hq1 := hq.below hb
  clear hg hd
  go_wp2_with fail
  refine (qr_any z p q r n w1 hz1 hr1 hp1 hq1 hM hzr hpz hpr).mono ?_
  rintro e w2 ⟨rfl, ho, hnr, hnz⟩
  have HF := Lib.hid (show QR z r (n % 18446744073709551616) W (.returned (.tuple #[.pointer (some ⟨z, 0, none⟩), .pointer (some ⟨r, 0, none⟩)])) w2 from
    ⟨rfl, ⟨ho.os.trans hb.os, ho.tape.trans hb.tape, ho.output.trans hb.output, Nat.le_trans hb.size ho.size, fun i hi h1 h2 => (ho.block i (Nat.lt_of_lt_of_le hi hb.size) h1 h2).trans (hb.block i hi)⟩, hnr, hnz⟩)
  obtain ⟨A, cap, c0, c1, hcap, hdd⟩ := hnr.facts
  clear ho hnz hb hz1 hr1 hp1 hq1 hdd hcap c1 hnr
  go_wp2_with fail
  go_ret2
  exact HF.out

theorem only_of_two {W W' : World} {z r : Nat} (h : Only2 W W' z r) (hz : W.heap.size ≤ z) : W.grownBy W' (some r) :=
  ⟨h.os, h.tape, h.output, h.size, fun i hi hne => h.block i hi (by omega) (by intro e; exact hne (by rw [e]))⟩

set_option maxHeartbeats 2000000 in
theorem mod_c (z p q n : Nat) (W : World) (hz : Slot W z) (hp : Num W p n) (hq : Num W q 18446744073709551616) (hM : (digs n).length + 1 ≤ 35184372088832) (hpz : p ≠ z) (hqz : q ≠ z) :
    Calls Try.prog 73 #[.pointer (some ⟨z, 0, none⟩), .pointer (some ⟨p, 0, none⟩), .pointer (some ⟨q, 0, none⟩)] W (Trimmed z (n % 18446744073709551616) W) := by
  have hql : q < W.heap.size := hq.lt
  have hpl := hp.lt
  have hzl := hz.lt
  go_enter Try.func73, Try.ntmps73
  go_wp2_with fail
  refine (divMod_c W.heap.size p q z n _ (Slot.new W) (hz.alloc _) (hp.alloc _) (hq.alloc _) hM (by omega) (by omega) hpz (by omega) hqz).mono ?_
  rintro e w1 ⟨rfl, ho, hn, hk⟩
  have hg : W.grownBy w1 (some z) := by
    refine ⟨ho.os, ho.tape, ho.output, Nat.le_trans (by simp) ho.size, fun i hi hne => ?_⟩
    exact (ho.block i (by simp; omega) (by omega) (by intro e; exact hne (by rw [e]))).trans (Below.heap_alloc W _ i hi)
  have HF := Lib.hid (show Trimmed z (n % 18446744073709551616) W (.returned (.pointer (some ⟨z, 0, none⟩))) w1 from ⟨rfl, hg, hn⟩)
  clear ho hn hk hg
  go_wp2_with fail
  go_ret
  exact HF.out

theorem newInt_one (W : World) : Calls Try.prog 66 #[.int .i64 1] W (Fresh 1 W) := newInt_c 1 (by decide) W

set_option maxHeartbeats 2000000 in
theorem aMod_c (p n : Nat) (W : World) (hp : Num W p n) (hM : (digs n).length + 1 ≤ 35184372088832) :
    Calls Try.prog 53 #[.pointer (some ⟨p, 0, none⟩)] W (Fresh (n % 18446744073709551616) W) := by
  have hpl := hp.lt
  go_enter Try.func53, Try.ntmps53
  go_wp2_with fail
  have s0 : Slot ((W.alloc (.cells #[.bool false, .slice none 0 0] 84)).alloc (.cells #[.bool false, .slice none 0 0] 84)) W.heap.size := (Slot.new W).alloc _
  have s1 : Slot ((W.alloc (.cells #[.bool false, .slice none 0 0] 84)).alloc (.cells #[.bool false, .slice none 0 0] 84)) (W.heap.size + 1) := by
    have h := Slot.new (W.alloc (.cells #[.bool false, .slice none 0 0] 84))
    rwa [show (W.alloc (.cells #[.bool false, .slice none 0 0] 84)).heap.size = W.heap.size + 1 by simp] at h
  have hb0 : Below W.heap.size W ((W.alloc (.cells #[.bool false, .slice none 0 0] 84)).alloc (.cells #[.bool false, .slice none 0 0] 84)) := ((Below.refl _ _).alloc (Nat.le_refl _) _).alloc (by simp) _
  have hp0 := hp.below hb0
  refine (newInt_one _).mono ?_
  rintro e w1 ⟨p1, rfl, hge, hb1, hn1⟩
  have hsz : ((W.alloc (.cells #[.bool false, .slice none 0 0] 84)).alloc (.cells #[.bool false, .slice none 0 0] 84)).heap.size = W.heap.size + 2 := by simp
  have s0' := s0.below hb1
  have s1' := s1.below hb1
  have hp1 := hp0.below hb1
  have hb01 : Below W.heap.size W w1 := hb0.trans (hb1.mono hb0.size)
  rw [hsz] at hge
  clear s0 s1 hb0 hp0 hb1 hsz
  go_wp2_with fail
  refine (lsh64_c (W.heap.size + 1) p1 w1 s1' hn1).mono ?_
  rintro e w2 ⟨rfl, hg2, hn2⟩
  have s0'' : Slot w2 W.heap.size := Slot.grown s0' hg2 (by omega)
  have hp2 : Num w2 p n := hp1.slotgrown hg2 s1' (by omega)
  have hb02 : Below W.heap.size W w2 := hb01.trans (below_of_new hg2 (by omega) hb01.size)
  clear s0' hp1 s1' hb01 hg2 hn1
  go_wp2_with fail
  refine (mod_c W.heap.size p (W.heap.size + 1) n w2 s0'' hp2 hn2 hM (by omega) (by omega)).mono ?_
  intro e w3 h3
  have HF := Lib.hid (show Fresh (n % 18446744073709551616) W (.returned (.pointer (some ⟨W.heap.size, 0, none⟩))) w3 from
    ⟨_, rfl, Nat.le_refl _, hb02.trans (below_of_new h3.2.1 (Nat.le_refl _) hb02.size), h3.2.2⟩)
  obtain ⟨rfl, _⟩ := h3
  clear s0'' hp2 hb02 hn2
  go_wp2_with fail
  go_ret
  exact HF.out
end Go.Proofs.Ytcbecpgllebepaa.Big

namespace Go.Proofs.Ytcbecpgllebepaa.Big
set_option linter.unusedVariables false
open Go.RowKit

def fac (k : Nat) : UInt64 := if k = 0 then 0xff51afd7ed558ccd else if k = 1 then 0xc4ceb9fe1a85ec53 else 1
def st (x : UInt64) : Nat → UInt64
  | 0 => x
  | k + 1 => Mix.fold (st x k) * fac k
theorem st_three (x : UInt64) : st x 3 = Mix.one x := by
  show Mix.fold (Mix.fold (Mix.fold x * fac 0) * fac 1) * fac 2 = _
  unfold Mix.one Mix.mA Mix.mB
  rw [show fac 2 = 1 from rfl, UInt64.mul_one]
  rfl
theorem fold_nat (u : UInt64) : (Mix.fold u).toNat = u.toNat ^^^ u.toNat / 8589934592 := by
  unfold Mix.fold
  rw [UInt64.toNat_xor, UInt64.toNat_shiftRight, show (33 : UInt64).toNat % 64 = 33 by decide, Nat.shiftRight_eq_div_pow]
theorem mul_nat (u v : UInt64) : (u * v).toNat = u.toNat * v.toNat % 18446744073709551616 := UInt64.toNat_mul u v
theorem len_word (u : UInt64) : (digs u.toNat).length ≤ 2 := digs_len (k := 2) (by have := u.toNat_lt; omega)
theorem len_prod (u v : UInt64) : (digs (u.toNat * v.toNat)).length ≤ 4 := digs_len (k := 4) (by
  have h1 := u.toNat_lt; have h2 := v.toNat_lt
  have : u.toNat * v.toNat ≤ 18446744073709551615 * 18446744073709551615 := Nat.mul_le_mul (by omega) (by omega)
  omega)

def Facs : Array Value := #[.int .u64 18397679294719823053, .int .u64 14181476777654086739, .int .u64 1]
theorem facs_at {w : World} {g k : Nat} (h : Blk w g 22 Facs) (hk : k < 3) : w.cell? ⟨g, k, none⟩ = some (.int .u64 (fac k).toNat) := by
  rw [Blk.cell h]
  rcases (by omega : k = 0 ∨ k = 1 ∨ k = 2) with rfl | rfl | rfl <;> rfl

def OneAt (W : World) (x : UInt64) (g k p : Nat) (wr : World) : Prop := Below W.heap.size W wr ∧ W.heap.size ≤ p ∧ Num wr p (st x k).toNat ∧ Blk wr g 22 Facs

set_option maxHeartbeats 2000000 in
theorem aOne_c (x : UInt64) (W : World) :
    Calls Try.prog 31 #[.int .u64 x.toNat] W fun e W' => e = .returned (.int .u64 (Mix.one x).toNat) ∧ Below W.heap.size W W' := by
  go_enter Try.func31, Try.ntmps31
  go_wp2_with fail
  refine (aBig_c x W).mono ?_
  rintro e w0 ⟨p0, rfl, hge, hb0, hn0⟩
  have hst : OneAt W x w0.heap.size 0 p0 (w0.alloc (.cells Facs 22)) := ⟨hb0.alloc hb0.size _, hge, hn0.alloc _, Blk.new _ _ _⟩
  have HS := Lib.hid hst
  clear hst hb0 hn0
  go_wp2_with fail
  go_loopw [3, 10] (fun n i wr => ∃ k p : Nat, k ≤ 3 ∧ i = .int .i64 k ∧ n = .pointer (some ⟨p, 0, none⟩) ∧ OneAt W x w0.heap.size k p wr) (fun _ i _ => 3 - (intOf i).toNat)
  case atStart => exact ⟨0, p0, by omega, rfl, rfl, HS.out⟩
  case round =>
    obtain ⟨k, p, hk, rfl, rfl, hb, hpW, hn, hB⟩ := hrel
    obtain ⟨wo, rfl⟩ : ∃ wo : World, wo = wr := ⟨_, rfl⟩
    by_cases hk3 : k < 3
    · have hcell := facs_at hB hk3
      have hpg : w0.heap.size ≠ p := by
        obtain ⟨A, cap, h1, _⟩ := hn
        intro e
        subst e
        exact absurd rfl (Blk.ne_ hB h1 (by decide))
      have hpl := hn.lt
      have hgl := hB.lt
      have HN := Lib.hid hn
      have HB := Lib.hid hB
      clear hn hB
      go_wp2_with fail
      refine (rsh_c wo.heap.size p (st x k).toNat _ (Slot.new wo) (HN.out.alloc _) (Nat.le_trans (len_word _) (by omega))).mono ?_
      rintro e w1 ⟨rfl, hg1, hn1⟩
      have hp1 : Num w1 p (st x k).toNat := (HN.out.alloc _).slotgrown hg1 (Slot.new wo) (by omega)
      have hB1 : Blk w1 w0.heap.size 22 Facs := Blk.grown (HB.out.alloc _) hg1 (by intro e; injection e with e; omega)
      have hb1 : Below W.heap.size W w1 := (hb.alloc hb.size _).trans (below_of_new hg1 hb.size (by simp; have := hb.size; omega))
      have hs1 : wo.heap.size < w1.heap.size := by have := hg1.size; simp at this; omega
      clear hg1
      go_wp2_with fail
      refine (xor_any p p wo.heap.size (st x k).toNat _ w1 hp1.slot hp1 hn1 (Nat.le_trans (len_word _) (by omega)) (Nat.le_trans (digs_mono (Nat.div_le_self _ _)) (Nat.le_trans (len_word _) (by omega)))).mono ?_
      rintro e w2 ⟨rfl, hg2, hn2⟩
      rw [← fold_nat] at hn2
      have hB2 : Blk w2 w0.heap.size 22 Facs := Blk.grown hB1 hg2 (by intro e; injection e with e; exact hpg e)
      have hb2 : Below W.heap.size W w2 := hb1.trans (below_of_new hg2 hpW hb1.size)
      clear hp1 hn1 hB1 hb1 hg2
      go_wp2_with fail
      refine (aBig_c (fac k) w2).mono ?_
      rintro e w3 ⟨q, rfl, hq, hb3, hn3⟩
      have hp3 := hn2.below hb3
      have hB3 : Blk w3 w0.heap.size 22 Facs := hB2.below hb3 hB2.lt
      have hb3' : Below W.heap.size W w3 := hb2.trans (hb3.mono hb2.size)
      clear hn2 hB2 hb2 hb3
      go_wp2_with fail
      refine (mul_c p p q _ _ w3 hp3.slot hp3 hn3 (Nat.le_trans (Nat.add_le_add (len_word _) (len_word _)) (by omega))).mono ?_
      rintro e w4 ⟨rfl, hg4, hn4⟩
      have hB4 : Blk w4 w0.heap.size 22 Facs := Blk.grown hB3 hg4 (by intro e; injection e with e; exact hpg e)
      have hb4 : Below W.heap.size W w4 := hb3'.trans (below_of_new hg4 hpW hb3'.size)
      clear hp3 hB3 hb3' hn3 hg4
      go_wp2_with fail
      refine (aMod_c p _ w4 hn4 (Nat.le_trans (Nat.add_le_add_right (len_prod _ _) 1) (by omega))).mono ?_
      rintro e w5 ⟨p5, rfl, hp5, hb5, hn5⟩
      rw [← mul_nat] at hn5
      have HF := Lib.hid (show OneAt W x w0.heap.size (k + 1) p5 w5 from ⟨hb4.trans (hb5.mono hb4.size), Nat.le_trans hb4.size hp5, hn5, hB4.below hb5 hB4.lt⟩)
      clear hn4 hB4 hb4 hb5 hn5
      go_wp2_with fail
      go_roundw
      case rel => exact ⟨k + 1, p5, by omega, by go_num, rfl, HF.out⟩
      case measure => simp [intOf]; omega
    · obtain rfl : k = 3 := by omega
      have HB := Lib.hid hb
      rw [st_three] at hn
      have HN := Lib.hid hn
      clear hb hB hn
      go_wp2_with fail
      refine (uint64_c p _ wo HN.out).mono ?_
      rintro e w1 ⟨rfl, rfl⟩
      go_wp2_with fail
      go_ret
      exact ⟨rfl, HB.out⟩
end Go.Proofs.Ytcbecpgllebepaa.Big
