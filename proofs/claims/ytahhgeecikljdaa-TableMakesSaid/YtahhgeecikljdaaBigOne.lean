/-
  The contract of AOne: by big numbers, what One returns.
-/
import Derived.Test.YtahhgeecikljdaaBigMod
import Derived.Test.YtahhgeecikljdaaMixPure
namespace Go.Proofs.Ytahhgeecikljdaa.Big
set_option linter.unusedVariables false
open Go.RowKit

def fac (k : Nat) : UInt64 := if k = 0 then 0xff51afd7ed558ccd else if k = 1 then 0xc4ceb9fe1a85ec53 else 1
def st (x : UInt64) : Nat → UInt64
  | 0 => x
  | k + 1 => Mix.fold (st x k) * fac k
theorem st_three (x : UInt64) : st x 3 = Mix.one x := by
  show Mix.fold (Mix.fold (Mix.fold x * fac 0) * fac 1) * fac 2 = _
  unfold Mix.one Mix.mA Mix.mB
  rw [show fac 2 = 1 from rfl, UInt64.mul_one]
  rfl
theorem fold_nat (u : UInt64) : (Mix.fold u).toNat = u.toNat ^^^ u.toNat / 8589934592 := by
  unfold Mix.fold
  rw [UInt64.toNat_xor, UInt64.toNat_shiftRight, show (33 : UInt64).toNat % 64 = 33 by decide, Nat.shiftRight_eq_div_pow]
theorem mul_nat (u v : UInt64) : (u * v).toNat = u.toNat * v.toNat % 18446744073709551616 := UInt64.toNat_mul u v
theorem len_word (u : UInt64) : (digs u.toNat).length ≤ 2 := digs_len (k := 2) (by have := u.toNat_lt; omega)
theorem len_prod (u v : UInt64) : (digs (u.toNat * v.toNat)).length ≤ 4 := digs_len (k := 4) (by
  have h1 := u.toNat_lt; have h2 := v.toNat_lt
  have : u.toNat * v.toNat ≤ 18446744073709551615 * 18446744073709551615 := Nat.mul_le_mul (by omega) (by omega)
  omega)

def Facs : Array Value := #[.int .u64 18397679294719823053, .int .u64 14181476777654086739, .int .u64 1]
theorem facs_at {w : World} {g k : Nat} (h : Blk w g 23 Facs) (hk : k < 3) : w.cell? ⟨g, k, none⟩ = some (.int .u64 (fac k).toNat) := by
  rw [Blk.cell h]
  rcases (by omega : k = 0 ∨ k = 1 ∨ k = 2) with rfl | rfl | rfl <;> rfl

def OneAt (W : World) (x : UInt64) (g k p : Nat) (wr : World) : Prop := Below W.heap.size W wr ∧ W.heap.size ≤ p ∧ Num wr p (st x k).toNat ∧ Blk wr g 23 Facs

set_option maxHeartbeats 2000000 in
theorem aOne_c (x : UInt64) (W : World) :
    Calls Try.prog 16 #[.int .u64 x.toNat] W fun e W' => e = .returned (.int .u64 (Mix.one x).toNat) ∧ Below W.heap.size W W' := by
  go_enter Try.func16, Try.ntmps16
  go_wp2_with fail
  refine (aBig_c x W).mono ?_
  rintro e w0 ⟨p0, rfl, hge, hb0, hn0⟩
  have hst : OneAt W x w0.heap.size 0 p0 (w0.alloc (.cells Facs 23)) := ⟨hb0.alloc hb0.size _, hge, hn0.alloc _, Blk.new _ _ _⟩
  have HS := Lib.hid hst
  clear hst hb0 hn0
  go_wp2_with fail
  go_loopw [3, 10] (fun n i wr => ∃ k p : Nat, k ≤ 3 ∧ i = .int .i64 k ∧ n = .pointer (some ⟨p, 0, none⟩) ∧ OneAt W x w0.heap.size k p wr) (fun _ i _ => 3 - (intOf i).toNat)
  case atStart => exact ⟨0, p0, by omega, rfl, rfl, HS.out⟩
  case round =>
    obtain ⟨k, p, hk, rfl, rfl, hb, hpW, hn, hB⟩ := hrel
    obtain ⟨wo, rfl⟩ : ∃ wo : World, wo = wr := ⟨_, rfl⟩
    by_cases hk3 : k < 3
    · have hcell := facs_at hB hk3
      have hpg : w0.heap.size ≠ p := by
        obtain ⟨A, cap, h1, _⟩ := hn
        intro e
        subst e
        exact absurd rfl (Blk.ne_ hB h1 (by decide))
      have hpl := hn.lt
      have hgl := hB.lt
      have HN := Lib.hid hn
      have HB := Lib.hid hB
      clear hn hB
      go_wp2_with fail
      refine (rsh_c wo.heap.size p (st x k).toNat _ (Slot.new wo) (HN.out.alloc _) (Nat.le_trans (len_word _) (by omega))).mono ?_
      rintro e w1 ⟨rfl, hg1, hn1⟩
      have hp1 : Num w1 p (st x k).toNat := (HN.out.alloc _).slotgrown hg1 (Slot.new wo) (by omega)
      have hB1 : Blk w1 w0.heap.size 23 Facs := Blk.grown (HB.out.alloc _) hg1 (by intro e; injection e with e; omega)
      have hb1 : Below W.heap.size W w1 := (hb.alloc hb.size _).trans (below_of_new hg1 hb.size (by simp; have := hb.size; omega))
      have hs1 : wo.heap.size < w1.heap.size := by have := hg1.size; simp at this; omega
      clear hg1
      go_wp2_with fail
      refine (xor_any p p wo.heap.size (st x k).toNat _ w1 hp1.slot hp1 hn1 (Nat.le_trans (len_word _) (by omega)) (Nat.le_trans (digs_mono (Nat.div_le_self _ _)) (Nat.le_trans (len_word _) (by omega)))).mono ?_
      rintro e w2 ⟨rfl, hg2, hn2⟩
      rw [← fold_nat] at hn2
      have hB2 : Blk w2 w0.heap.size 23 Facs := Blk.grown hB1 hg2 (by intro e; injection e with e; exact hpg e)
      have hb2 : Below W.heap.size W w2 := hb1.trans (below_of_new hg2 hpW hb1.size)
      clear hp1 hn1 hB1 hb1 hg2
      go_wp2_with fail
      refine (aBig_c (fac k) w2).mono ?_
      rintro e w3 ⟨q, rfl, hq, hb3, hn3⟩
      have hp3 := hn2.below hb3
      have hB3 : Blk w3 w0.heap.size 23 Facs := hB2.below hb3 hB2.lt
      have hb3' : Below W.heap.size W w3 := hb2.trans (hb3.mono hb2.size)
      clear hn2 hB2 hb2 hb3
      go_wp2_with fail
      refine (mul_c p p q _ _ w3 hp3.slot hp3 hn3 (Nat.le_trans (Nat.add_le_add (len_word _) (len_word _)) (by omega))).mono ?_
      rintro e w4 ⟨rfl, hg4, hn4⟩
      have hB4 : Blk w4 w0.heap.size 23 Facs := Blk.grown hB3 hg4 (by intro e; injection e with e; exact hpg e)
      have hb4 : Below W.heap.size W w4 := hb3'.trans (below_of_new hg4 hpW hb3'.size)
      clear hp3 hB3 hb3' hn3 hg4
      go_wp2_with fail
      refine (aMod_c p _ w4 hn4 (Nat.le_trans (Nat.add_le_add_right (len_prod _ _) 1) (by omega))).mono ?_
      rintro e w5 ⟨p5, rfl, hp5, hb5, hn5⟩
      rw [← mul_nat] at hn5
      have HF := Lib.hid (show OneAt W x w0.heap.size (k + 1) p5 w5 from ⟨hb4.trans (hb5.mono hb4.size), Nat.le_trans hb4.size hp5, hn5, hB4.below hb5 hB4.lt⟩)
      clear hn4 hB4 hb4 hb5 hn5
      go_wp2_with fail
      go_roundw
      case rel => exact ⟨k + 1, p5, by omega, by go_num, rfl, HF.out⟩
      case measure => simp [intOf]; omega
    · obtain rfl : k = 3 := by omega
      have HB := Lib.hid hb
      rw [st_three] at hn
      have HN := Lib.hid hn
      clear hb hB hn
      go_wp2_with fail
      refine (uint64_c p _ wo HN.out).mono ?_
      rintro e w1 ⟨rfl, rfl⟩
      go_wp2_with fail
      go_ret
      exact ⟨rfl, HB.out⟩
end Go.Proofs.Ytahhgeecikljdaa.Big
