/-
  The document's own answers on straws: HPower, HDraw.
-/
import Derived.Test.YtcbecpgllebepaaSwMem
import Derived.Test.YtcbecpgllebepaaBigB
import Derived.Test.YtcbecpgllebepaaBigA
namespace Go.Proofs.Ytcbecpgllebepaa.Straw
set_option linter.unusedVariables false
set_option linter.unusedSimpArgs false
open Go.RowKit Big

theorem pow_lt {x k : Nat} (hx : x ≤ 65536) (hk : k ≤ 200) : x ^ k < 4294967296 ^ 101 := by
  have h1 : x ^ k ≤ 65536 ^ k := Nat.pow_le_pow_left hx k
  have h2 : 65536 ^ k ≤ 65536 ^ 200 := Nat.pow_le_pow_right (by omega) hk
  exact Nat.lt_of_le_of_lt (Nat.le_trans h1 h2) (by decide +kernel)
theorem pow_len {x k : Nat} (hx : x ≤ 65536) (hk : k ≤ 200) : (digs (x ^ k)).length ≤ 101 := digs_len (pow_lt hx hk)
theorem small_digs {x : Nat} (hx : x ≤ 65536) : (digs x).length ≤ 1 := digs_len (k := 1) (by omega)
set_option maxRecDepth 100000 in
set_option maxHeartbeats 4000000 in
theorem power_c (x n : Nat) (hx : x ≤ 65536) (hn : n ≤ 100) (W : World) :
    Calls Try.prog 46 #[.int .i64 x, .int .i64 n] W (Fresh (x ^ n) W) := by
  have N1 := Lib.hid (fun V => newInt_c 1 (by omega) V)
  have NX := Lib.hid (fun V => newInt_c x (by omega) V)
  go_enter Try.func46, Try.ntmps46
  go_wp2_with fail
  refine (N1.out _).mono ?_
  intro e w1 hf
  obtain ⟨p, rfl, hp, hb, hnum⟩ := hf
  have A0 := Lib.hid (show At W p (x ^ 0) w1 from ⟨hp, hb, hnum⟩)
  clear hp hb hnum
  go_wp2
  go_loopw [8] (fun i wr => ∃ k : Nat, k ≤ n ∧ i = .int .i64 k ∧ At W p (x ^ k) wr) (fun i _ => n - (intOf i).toNat)
  case atStart => exact ⟨0, by omega, rfl, A0.out⟩
  case round =>
    obtain ⟨k, hk, rfl, hA⟩ := hrel
    have HA := Lib.hid hA
    clear hA A0
    by_cases hlt : k < n
    · go_wp2_with fail
      refine (NX.out _).mono ?_
      intro e w2 hf
      obtain ⟨q, rfl, hA, hq⟩ := HA.out.new hf
      have B2 := Lib.hid hA
      have Q2 := Lib.hid hq
      clear hf hA hq HA
      go_wp2_with fail
      refine (mul_c p p q (x ^ k) x _ B2.out.2.2.slot B2.out.2.2 Q2.out (Nat.le_trans (Nat.add_le_add (pow_len hx (by omega)) (small_digs hx)) (by omega))).mono ?_
      intro e w3 ht
      obtain ⟨rfl, hA⟩ := B2.out.to ht
      have A3 := Lib.hid hA
      clear ht hA B2 Q2
      go_wp2
      go_roundw
      case rel => exact ⟨k + 1, by omega, by go_num, by rw [Nat.pow_succ]; exact A3.out⟩
      case measure => simp [intOf]; omega
    · obtain rfl : k = n := by omega
      go_wp2
      go_ret
      exact ⟨p, rfl, HA.out.1, HA.out.2.1, HA.out.2.2⟩
theorem word_val (id : Int) : IntKind.u64.wrap id = ((word id).toNat : Int) := by
  unfold word
  rw [IntKind.wrap_u64, UInt64.toNat_ofNat', Nat.mod_eq_of_lt (by omega)]; omega
set_option maxHeartbeats 1000000 in
theorem draw_c (key : UInt64) (id : Int) (W : World) :
    Calls Try.prog 47 #[.int .u64 key.toNat, .int .i64 id] W (Gave (.int .i64 (draw key id)) W) := by
  have A1 := Lib.hid (fun V => aOne_c key V)
  have wid := word_val id
  have wid2 : id % 18446744073709551616 = ((word id).toNat : Int) := by rw [← wid, IntKind.wrap_u64]
  have E := Lib.hid (show draw key id = (Mix.one (Words.add (Mix.one key) (word id))).toNat / 281474976710656 + 1 from rfl)
  generalize ha : Mix.one key = av at *
  have ws := Words.add64 av (word id)
  have ws2 := Words.add64m av (word id)
  generalize hw : word id = wv at *
  generalize hb : Words.add av wv = bv at *
  have A2 := Lib.hid (fun V => aOne_c bv V)
  generalize hd : Mix.one bv = dv at *
  have lt := dv.toNat_lt
  have dv1 : ((dv.toNat : Int) / 281474976710656) = ((dv.toNat / 281474976710656 : Nat) : Int) := by omega
  have dv2 : (dv.toNat : Int).tdiv 281474976710656 = ((dv.toNat / 281474976710656 : Nat) : Int) := by rw [Int.tdiv_eq_ediv_of_nonneg (by omega)]; omega
  have qb : dv.toNat / 281474976710656 ≤ 65535 := by omega
  generalize hq : dv.toNat / 281474976710656 = q at *
  clear ha hw hb hd lt hq
  go_enter Try.func47, Try.ntmps47
  go_wp2_with (first | ((with_reducible refine (A1.out _).mono ?_); rintro e w1 ⟨rfl, hb⟩; have B1 := Lib.hid hb; clear hb) | ((with_reducible refine (A2.out _).mono ?_); rintro e w2 ⟨rfl, hb⟩; have B2 := Lib.hid (B1.out.trans (hb.mono B1.out.size)); clear hb))
  go_ret
  exact ⟨by rw [E.out]; rfl, B2.out⟩
end Go.Proofs.Ytcbecpgllebepaa.Straw
