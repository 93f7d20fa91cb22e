/-
  The contract of AText: by big numbers, what Text returns.
-/
import Derived.Test.YtimbibphpaibiaaBigOne
import Derived.Test.YtimbibphpaibiaaMix
namespace Go.Proofs.Ytimbibphpaibiaa.Big
set_option linter.unusedVariables false
open Go.RowKit

theorem byte_conv (c : UInt8) : IntKind.i64.wrap (c.toNat : Int) = (c.toNat : Int) := by rw [IntKind.wrap_i64]; have := c.toNat_lt; omega
theorem step_nat (u : UInt64) (c : UInt8) : (Mix.step u c).toNat = (u.toNat ^^^ c.toNat) * 1099511628211 % 18446744073709551616 := by
  unfold Mix.step Mix.mE Words.xor Words.ofByte
  rw [UInt64.toNat_mul, UInt64.toNat_xor, UInt8.toNat_toUInt64]
  rfl
theorem xor_lt (u : UInt64) (c : UInt8) : (u.toNat ^^^ c.toNat) < 18446744073709551616 := by
  have h1 := u.toNat_lt; have h2 := c.toNat_lt
  exact Nat.xor_lt_two_pow (n := 64) (by omega) (by omega)
theorem len_small {n : Nat} (h : n < 18446744073709551616) : (digs n).length ≤ 2 := digs_len (k := 2) (by omega)
theorem len_two {n m : Nat} (h : n < 18446744073709551616) (h2 : m < 18446744073709551616) : (digs (n * m)).length ≤ 4 := digs_len (k := 4) (by
  have : n * m ≤ 18446744073709551615 * 18446744073709551615 := Nat.mul_le_mul (by omega) (by omega)
  omega)
theorem aBig_start (W : World) : Calls Try.prog 9 #[.int .u64 14695981039346656037] W (Fresh 14695981039346656037 W) := aBig_c 0xcbf29ce484222325 W
theorem aBig_fac (W : World) : Calls Try.prog 9 #[.int .u64 1099511628211] W (Fresh 1099511628211 W) := aBig_c 0x100000001b3 W
attribute [local go_sem] byte_conv

def TextAt (W : World) (s : ByteArray) (k p : Nat) (wr : World) : Prop := Below W.heap.size W wr ∧ W.heap.size ≤ p ∧ Num wr p (Mix.fnvTo s k).toNat

set_option maxHeartbeats 2000000 in
theorem aText_c (s : ByteArray) (W : World) (hs : s.size ≤ maxLen) :
    Calls Try.prog 16 #[.string s] W fun e W' => e = .returned (.int .u64 (Mix.text s.data.toList).toNat) ∧ Below W.heap.size W W' := by
  unfold maxLen at hs
  go_enter Try.func16, Try.ntmps16
  go_wp2_with fail
  refine (aBig_start W).mono ?_
  rintro e w0 ⟨p0, rfl, hge, hb0, hn0⟩
  have HS := Lib.hid (show TextAt W s 0 p0 w0 from ⟨hb0, hge, hn0⟩)
  clear hb0 hn0
  go_wp2_with fail
  go_loopw [3, 8] (fun n i wr => ∃ k p : Nat, k ≤ s.size ∧ i = .int .i64 k ∧ n = .pointer (some ⟨p, 0, none⟩) ∧ TextAt W s k p wr) (fun _ i _ => s.size - (intOf i).toNat)
  case atStart => exact ⟨0, p0, Nat.zero_le _, rfl, rfl, HS.out⟩
  case round =>
    obtain ⟨k, p, hk, rfl, rfl, hb, hpW, hn⟩ := hrel
    obtain ⟨wo, rfl⟩ : ∃ wo : World, wo = wr := ⟨_, rfl⟩
    by_cases hk3 : k < s.size
    · have hsucc : (Mix.fnvTo s (k + 1)) = Mix.step (Mix.fnvTo s k) s[k] := Mix.fnvTo_succ s k hk3
      have HK := Lib.hid hsucc
      clear hsucc
      have hpl := hn.lt
      have HN := Lib.hid hn
      clear hn
      go_wp2_with fail
      refine (newInt_c s[k].toNat (by have := s[k].toNat_lt; omega) wo).mono ?_
      rintro e w1 ⟨q, rfl, hq, hb1, hn1⟩
      have hp1 := HN.out.below hb1
      have hb1' : Below W.heap.size W w1 := hb.trans (hb1.mono hb.size)
      clear hb1
      go_wp2_with fail
      refine (xor_any p p q _ _ w1 hp1.slot hp1 hn1 (Nat.le_trans (len_word _) (by omega)) (Nat.le_trans (len_small (by have := s[k].toNat_lt; omega)) (by omega))).mono ?_
      rintro e w2 ⟨rfl, hg2, hn2⟩
      have hb2 : Below W.heap.size W w2 := hb1'.trans (below_of_new hg2 hpW hb1'.size)
      clear hp1 hn1 hb1' hg2
      go_wp2_with fail
      refine (aBig_fac w2).mono ?_
      rintro e w3 ⟨q3, rfl, hq3, hb3, hn3⟩
      have hp3 := hn2.below hb3
      have hb3' : Below W.heap.size W w3 := hb2.trans (hb3.mono hb2.size)
      clear hn2 hb2 hb3
      go_wp2_with fail
      refine (mul_c p p q3 _ _ w3 hp3.slot hp3 hn3 (Nat.le_trans (Nat.add_le_add (len_small (xor_lt _ _)) (len_small (by omega))) (by omega))).mono ?_
      rintro e w4 ⟨rfl, hg4, hn4⟩
      have hb4 : Below W.heap.size W w4 := hb3'.trans (below_of_new hg4 hpW hb3'.size)
      clear hp3 hb3' hn3 hg4
      go_wp2_with fail
      refine (aMod_c p _ w4 hn4 (Nat.le_trans (Nat.add_le_add_right (len_two (xor_lt _ _) (by omega)) 1) (by omega))).mono ?_
      rintro e w5 ⟨p5, rfl, hp5, hb5, hn5⟩
      rw [← step_nat, ← HK.out] at hn5
      have HF := Lib.hid (show TextAt W s (k + 1) p5 w5 from ⟨hb4.trans (hb5.mono hb4.size), Nat.le_trans hb4.size hp5, hn5⟩)
      clear hn4 hb4 hb5 hn5
      go_wp2_with fail
      go_roundw
      case rel => exact ⟨k + 1, p5, by omega, by go_num, rfl, HF.out⟩
      case measure => simp [intOf]; omega
    · obtain rfl : k = s.size := by omega
      rw [Mix.fnvTo_size] at hn
      have HB := Lib.hid hb
      have HN := Lib.hid hn
      clear hb hn
      go_wp2_with fail
      refine (uint64_c p _ wo HN.out).mono ?_
      rintro e w1 ⟨rfl, rfl⟩
      go_wp2_with fail
      refine (aOne_c (Mix.fnv s.data.toList) wo).mono ?_
      rintro e w2 ⟨rfl, hb2⟩
      have HF := Lib.hid (HB.out.trans (hb2.mono HB.out.size))
      clear hb2
      go_wp2_with fail
      go_ret
      exact ⟨rfl, HF.out⟩
end Go.Proofs.Ytimbibphpaibiaa.Big
