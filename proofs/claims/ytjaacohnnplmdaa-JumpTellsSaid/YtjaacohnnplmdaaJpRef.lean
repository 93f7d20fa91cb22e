/-
  The document's own answer on jumps: IJumps.
-/
import Derived.Test.YtjaacohnnplmdaaJpBag
import Derived.Test.YtjaacohnnplmdaaJpPure
import Derived.Deep.DeepCutAuto
namespace Go.Proofs.Ytjaacohnnplmdaa.Jump
set_option linter.unusedVariables false
set_option linter.unusedSimpArgs false
open Go.RowKit Big
open Stripe (ITab nat64)

theorem cmp_below {n m : Nat} (h : n < m) : cmpInt n m = -1 := cmp_lt h
/-- Div by naturals. -/
theorem div_n (z p q n m : Nat) (W : World) (hz : Slot W z) (hp : Num W p n) (hq : Num W q m) (hm : 1 ≤ m) (hmn : m ≤ n) (hn : n < 18446744073709551616) :
    Calls Try.prog 25 #[.pointer (some ⟨z, 0, none⟩), .pointer (some ⟨p, 0, none⟩), .pointer (some ⟨q, 0, none⟩)] W (Trimmed z (n / m) W) := by
  have e1 : (UInt64.ofNat n).toNat = n := by rw [UInt64.toNat_ofNat', Nat.mod_eq_of_lt (by omega)]
  have e2 : (UInt64.ofNat m).toNat = m := by rw [UInt64.toNat_ofNat', Nat.mod_eq_of_lt (by omega)]
  have := div_w z p q (UInt64.ofNat n) (UInt64.ofNat m) W hz (by rw [e1]; exact hp) (by rw [e2]; exact hq) (by rw [e2]; exact hm) (by rw [e1, e2]; exact hmn)
  rwa [e1, e2] at this
theorem fac_val : ((2862933555777941757 : UInt64).toNat : Int) = 2862933555777941757 := rfl
theorem aBig_fac9 (W : World) : Calls Try.prog 16 #[.int .u64 2862933555777941757] W (Fresh 2862933555777941757 W) := aBig_c 2862933555777941757 W
def lenV : Value → Nat
  | .slice _ n _ => n
  | _ => 0
theorem bk_bound {key : UInt64} {m i : Nat} (hi : i ≤ cnt key m) (hm : m ≤ 1048576) : bk key i ≤ 2251799813685248 := by
  rcases i with _ | i
  · rw [bk_zero]; omega
  · have h1 := cnt_iff.1 (show i < cnt key m by omega)
    rw [bk_succ]
    have h2 := nb_le (nk (kk key i)) (bk key i)
    omega
/-- What a round makes. -/
structure Next (a b a' b' : Nat) : Prop where
  key : (a * 2862933555777941757 + 1) % 18446744073709551616 = a'
  jump : (b + 1) * 2147483648 / (a' / 8589934592 + 1) = b'
theorem next_of (key : UInt64) (i : Nat) : Next (kk key i).toNat (bk key i) (kk key (i + 1)).toNat (bk key (i + 1)) := by
  refine ⟨?_, ?_⟩
  · rw [kk_succ, nk_nat]
  · rw [bk_succ, kk_succ]; rfl
/-- The loop's worlds: how many jumps, n and at. -/
def LoopAt (W : World) (key : UInt64) (i : Nat) (pn pa : Nat) (v : Value) (w : World) : Prop :=
  Bag W v (bks key i) [(pn, (kk key i).toNat), (pa, bk key i)] w

set_option maxRecDepth 100000 in
set_option maxHeartbeats 8000000 in
theorem iJumps_c (key : UInt64) (m : Nat) (h1 : 1 ≤ m) (h2 : m ≤ 1048576) (W : World) :
    Calls Try.prog 9 #[.int .u64 key.toNat, .int .i64 m] W fun e w => ∃ A c, e = .returned (.slice A (cnt key m) c) ∧ Mem.Reads w A ((jumps key m).map (Value.int .i64)) ∧ Below W.heap.size W w := by
  have N0 := Lib.hid (fun V => newInt_c 0 (by omega) V)
  have N1 := Lib.hid (fun V => newInt_c 1 (by omega) V)
  have NM := Lib.hid (fun V => newInt_c m (by omega) V)
  have KB := Lib.hid (fun V => aBig_c key V)
  have KF := Lib.hid (fun V => aBig_fac9 V)
  have LM := Lib.hid (show (digs m).length ≤ 4 from small_len (by omega))
  have L1 := Lib.hid (show (digs 1).length ≤ 4 from small_len (by omega))
  have LC := Lib.hid (show (digs 2862933555777941757).length ≤ 4 from small_len (by omega))
  go_enter Try.func9, Try.ntmps9
  go_wp2_with fail
  refine (KB.out _).mono ?_
  intro e w1 hf
  obtain ⟨pn, rfl, hB⟩ := (Bag.start W).fresh hf
  have B1 := Lib.hid hB
  clear hf hB
  go_wp2_with fail
  refine (N0.out _).mono ?_
  intro e w2 hf
  obtain ⟨pa, rfl, hB⟩ := B1.out.fresh hf
  have B2 := Lib.hid (show LoopAt W key 0 pn pa (.slice none 0 0) w2 from hB.swap)
  clear hf hB B1
  go_wp2
  go_loopw [5, 6, 7, 8] (fun vn va vo vd wr => ∃ (i pn pa : Nat) (A : Option Addr) (c : Nat), i ≤ cnt key m ∧ vn = .pointer (some ⟨pn, 0, none⟩) ∧ va = .pointer (some ⟨pa, 0, none⟩) ∧ vo = .slice A i c ∧ LoopAt W key i pn pa (.slice A i c) wr) (fun _ _ vo _ _ => m - lenV vo)
  case atStart => exact ⟨0, pn, pa, none, 0, by omega, rfl, rfl, rfl, B2.out⟩
  case round =>
    obtain ⟨i, pn, pa, A, c, hi, rfl, rfl, rfl, hB⟩ := hrel
    have hlo := bk_bound hi h2
    have hlt : i < cnt key m ↔ bk key i < m := cnt_iff
    have NX := Lib.hid (next_of key i)
    have BS := Lib.hid (bks_succ key i)
    have BL := Lib.hid (bks_len key i)
    have ALL := Lib.hid (fun (h : i = cnt key m) => (show (bks key i).map nat64 = (jumps key m).map (Value.int .i64) by rw [h]; exact bks_all key m))
    have hd : ∀ V, LoopAt W key (i + 1) V = LoopAt W key (i + 1) V := fun _ => rfl
    have RE := Lib.hid (fun (pn pa : Nat) (v : Value) (w : World) (h : Bag W v (bks key (i + 1)) [(pn, (kk key (i + 1)).toNat), (pa, bk key (i + 1))] w) => (show LoopAt W key (i + 1) pn pa v w from h))
    unfold LoopAt at hB
    have ha := (kk key i).toNat_lt
    have ha' := (kk key (i + 1)).toNat_lt
    have hcnt := cnt_le key m
    have HL := Lib.hid hlt
    have HI := Lib.hid hi
    have BA := Lib.hid hB
    clear hB B2 hd hi hlt
    generalize (kk key i).toNat = a at *
    generalize (kk key (i + 1)).toNat = a' at *
    generalize bk key i = b at *
    generalize bk key (i + 1) = b' at *
    generalize bks key i = l at *
    generalize bks key (i + 1) = l' at *
    have LB := Lib.hid (show (digs b).length ≤ 4 from small_len (by omega))
    go_wp2_with fail
    refine (NM.out _).mono ?_
    intro e w3 hf
    obtain ⟨q, rfl, hB⟩ := BA.out.fresh hf
    have B3 := Lib.hid hB
    clear hf hB
    go_wp2_with fail
    have k := cmp_w pa q b m w3 (B3.out.num (by simp)) (B3.out.num (by simp)) (Nat.le_trans LB.out (by omega)) (Nat.le_trans LM.out (by omega))
    rcases Nat.lt_or_ge b m with hbm | hbm
    · rw [cmp_lt hbm] at k
      refine k.mono ?_
      rintro e w4 ⟨rfl, hb⟩
      have B4 := Lib.hid ((B3.out.below hb).tail)
      have hic := Lib.hid (HL.out.2 hbm)
      clear hb k
      go_wp2_with fail
      refine (int64_c pa b w4 (B4.out.num (by simp)) (by omega)).mono ?_
      rintro e w5 ⟨rfl, rfl⟩
      have hi20 : i < 1048576 := by have := hic.out; omega
      go_wp2_with (at_builtin; refine Stripe.wpList_append_int (v := .slice A i c) (n := i) rfl (.tmp 17) (.tmp 20) rfl b rfl rfl (by rfl) B4.out.2.1 BL.out (by omega) B4.out.1.size B4.out.1 (Nat.le_refl _) ?_; intro A5 c5 w5 hT5 hg5 hB5; have B5 := Lib.hid (B4.out.app _ hg5.out hT5.out); clear hT5 hg5 hB5)
      refine (KF.out _).mono ?_
      intro e w6 hf
      obtain ⟨q6, rfl, hB⟩ := B5.out.fresh hf
      have B6 := Lib.hid hB.swap
      clear hf hB
      have la := Lib.hid (show (digs a).length ≤ 4 from small_len (by omega))
      go_wp2_with fail
      refine (mul_c pn pn q6 a 2862933555777941757 w6 (B6.out.num (n := a) (by simp)).slot (B6.out.num (by simp)) (B6.out.num (by simp)) (Nat.le_trans (Nat.add_le_add la.out LC.out) (by omega))).mono ?_
      intro e w7 ht
      obtain ⟨rfl, hB⟩ := B6.out.trim ht
      have B7 := Lib.hid hB
      clear ht hB
      go_wp2_with fail
      refine (N1.out _).mono ?_
      intro e w8 hf
      obtain ⟨q8, rfl, hB⟩ := B7.out.fresh hf
      have B8 := Lib.hid hB.swap
      clear hf hB
      have lp := Lib.hid (show (digs (a * 2862933555777941757)).length ≤ 4 from small_len (by omega))
      go_wp2_with fail
      refine (add_c pn pn q8 (a * 2862933555777941757) 1 w8 (B8.out.num (n := a * 2862933555777941757) (by simp)).slot (B8.out.num (by simp)) (B8.out.num (by simp)) (Nat.le_trans (Nat.add_le_add_right lp.out 1) (by omega)) (Nat.le_trans (Nat.add_le_add_right L1.out 1) (by omega))).mono ?_
      intro e w9 ht
      obtain ⟨rfl, hB⟩ := B8.out.trim ht
      have B9 := Lib.hid hB
      clear ht hB
      have ls := Lib.hid (show (digs (a * 2862933555777941757 + 1)).length ≤ 4 from small_len (by omega))
      go_wp2_with fail
      refine (aMod_c pn (a * 2862933555777941757 + 1) w9 (B9.out.num (by simp)) (Nat.le_trans (Nat.add_le_add_right ls.out 1) (by omega))).mono ?_
      intro e w10 hf
      rw [NX.out.key] at hf
      obtain ⟨pn', rfl, hB⟩ := B9.out.fresh hf
      have B10 := Lib.hid (show Bag W (.slice A5 (i + 1) c5) (l ++ [b]) [(pn', a'), (pa, b)] w10 from hB.of (by simp) (by have := hB.2.2.2; simp at this ⊢; omega))
      clear hf hB
      have la' := Lib.hid (show (digs a').length ≤ 4 from small_len (by omega))
      go_wp2_with fail
      have B11 := Lib.hid (B10.out.new)
      generalize hz : w10.heap.size = z at *
      refine (rsh_c z pn' a' _ (B11.out.num (n := 0) (by simp)).slot (B11.out.num (by simp)) (Nat.le_trans la'.out (by omega))).mono ?_
      intro e w11 ht
      obtain ⟨rfl, hB⟩ := B11.out.trim ht
      have B12 := Lib.hid hB
      clear ht hB hz
      go_wp2_with fail
      refine (N1.out _).mono ?_
      intro e w12 hf
      obtain ⟨q12, rfl, hB⟩ := B12.out.fresh hf
      have B13 := Lib.hid hB.swap
      clear hf hB
      have lr := Lib.hid (show (digs (a' / 8589934592)).length ≤ 4 from small_len (by omega))
      go_wp2_with fail
      refine (add_c z z q12 (a' / 8589934592) 1 w12 (B13.out.num (n := a' / 8589934592) (by simp)).slot (B13.out.num (by simp)) (B13.out.num (by simp)) (Nat.le_trans (Nat.add_le_add_right lr.out 1) (by omega)) (Nat.le_trans (Nat.add_le_add_right L1.out 1) (by omega))).mono ?_
      intro e w13 ht
      obtain ⟨rfl, hB⟩ := B13.out.trim ht
      have B14 := Lib.hid hB.second
      clear ht hB
      go_wp2_with fail
      have B15 := Lib.hid (B14.out.new1)
      generalize hz1 : w13.heap.size = z1 at *
      refine (N1.out _).mono ?_
      intro e w14 hf
      obtain ⟨q14, rfl, hB⟩ := B15.out.fresh hf
      have B16 := Lib.hid hB.swap
      clear hf hB hz1
      go_wp2_with fail
      refine (add_c (z1 + 1) pa q14 b 1 w14 (B16.out.num (n := 0) (by simp)).slot (B16.out.num (by simp)) (B16.out.num (by simp)) (Nat.le_trans (Nat.add_le_add_right LB.out 1) (by omega)) (Nat.le_trans (Nat.add_le_add_right L1.out 1) (by omega))).mono ?_
      intro e w15 ht
      obtain ⟨rfl, hB⟩ := B16.out.trim ht
      have B17 := Lib.hid hB.third
      clear ht hB
      have lb1 := Lib.hid (show (digs (b + 1)).length ≤ 4 from small_len (by omega))
      go_wp2_with fail
      refine (lsh_c z1 (z1 + 1) (b + 1) w15 (B17.out.num (n := 0) (by simp)).slot (B17.out.num (by simp)) (Nat.le_trans (Nat.add_le_add_right lb1.out 1) (by omega))).mono ?_
      intro e w16 ht
      obtain ⟨rfl, hB⟩ := B17.out.trim ht
      have B18 := Lib.hid (show Bag W (.slice A5 (i + 1) c5) (l ++ [b]) [(z1, (b + 1) * 2147483648), (z, a' / 8589934592 + 1), (pn', a')] w16 from hB.of (by simp) (by have := hB.2.2.2; simp at this ⊢; omega))
      clear ht hB
      go_wp2_with fail
      refine (div_n z1 z1 z ((b + 1) * 2147483648) (a' / 8589934592 + 1) w16 (B18.out.num (n := (b + 1) * 2147483648) (by simp)).slot (B18.out.num (by simp)) (B18.out.num (by simp)) (by omega) (by omega) (by omega)).mono ?_
      intro e w17 ht
      rw [NX.out.jump] at ht
      obtain ⟨rfl, hB⟩ := B18.out.trim ht
      have B19 := Lib.hid (show Bag W (.slice A5 (i + 1) c5) l' [(pn', a'), (z1, b')] w17 by rw [BS.out]; exact hB.second.swap)
      clear ht hB
      go_wp2
      go_roundw
      case rel => exact ⟨i + 1, pn', z1, A5, c5, by have := hic.out; omega, rfl, rfl, rfl, RE.out _ _ _ _ B19.out⟩
      case measure => have := hic.out; simp [lenV]; omega
    · obtain ⟨r, hr, hr0⟩ := cmp_ge hbm
      rw [hr] at k
      have hd : decide (r < 0) = false := decide_eq_false (by omega)
      have hic : i = cnt key m := by
        rcases Nat.lt_or_ge i (cnt key m) with h | h
        · have := HL.out.1 h; omega
        · have := HI.out; omega
      refine k.mono ?_
      rintro e w4 ⟨rfl, hb⟩
      have B4 := Lib.hid ((B3.out.below hb).tail)
      clear hb k hr
      have AX := Lib.hid (ALL.out hic)
      subst hic
      go_wp2
      go_ret
      exact ⟨A, c, rfl, by have := B4.out.2.1.reads; rwa [AX.out] at this, B4.out.1⟩
end Go.Proofs.Ytjaacohnnplmdaa.Jump
