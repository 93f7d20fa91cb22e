/-
  The contracts of (*Int).DivMod and (*Int).Mod for a divisor of 2^64, and of AMod.
-/
import Derived.Test.YtahhgeecikljdaaBigQuo
namespace Go.Proofs.Ytahhgeecikljdaa.Big
set_option linter.unusedVariables false
open Go.RowKit

theorem qr_any (z p q r n : Nat) (W : World) (hz : Slot W z) (hr : Slot W r) (hp : Num W p n) (hq : Num W q 18446744073709551616) (hM : (digs n).length + 1 ≤ 35184372088832) (hzr : z ≠ r) (hpz : p ≠ z) (hpr : p ≠ r) :
    Calls Try.prog 75 #[.pointer (some ⟨z, 0, none⟩), .pointer (some ⟨p, 0, none⟩), .pointer (some ⟨q, 0, none⟩), .pointer (some ⟨r, 0, none⟩)] W (QR z r (n % 18446744073709551616) W) := by
  rcases Nat.lt_or_ge n 18446744073709551616 with h | h
  · rw [Nat.mod_eq_of_lt h]; exact qr_small z p q r n W hz hr hp hq h hzr hpz hpr
  · exact qr_large z p q r n W hz hr hp hq h hM hzr hpz hpr

set_option maxHeartbeats 2000000 in
theorem divMod_c (z p q r n : Nat) (W : World) (hz : Slot W z) (hr : Slot W r) (hp : Num W p n) (hq : Num W q 18446744073709551616) (hM : (digs n).length + 1 ≤ 35184372088832) (hzr : z ≠ r) (hpz : p ≠ z) (hpr : p ≠ r) (hqz : q ≠ z) (hqr : q ≠ r) :
    Calls Try.prog 61 #[.pointer (some ⟨z, 0, none⟩), .pointer (some ⟨p, 0, none⟩), .pointer (some ⟨q, 0, none⟩), .pointer (some ⟨r, 0, none⟩)] W (QR z r (n % 18446744073709551616) W) := by
  have hql : q < W.heap.size := hq.lt
  have hpl := hp.lt
  have hzl := hz.lt
  have hrl := hr.lt
  have hq1 : Num (W.alloc (.cells #[.bool false, .slice none 0 0] 62)) q 18446744073709551616 := hq.alloc _
  have h2 : (digs 18446744073709551616).length ≤ 35184372088832 := by rw [digs_264]; simp
  have HQ := Lib.hid hq1
  have H2 := Lib.hid h2
  clear hq1 h2
  go_enter Try.func61, Try.ntmps61
  go_wp2_with fail
  refine (set_c W.heap.size q 18446744073709551616 _ (Slot.new W) HQ.out H2.out).mono ?_
  rintro e w1 ⟨rfl, hg, hd⟩
  have hb : Below W.heap.size W w1 := below_of_new (only_trans (only_alloc (only_refl W (some W.heap.size)) _) hg) (Nat.le_refl _) (Nat.le_refl _)
  have hz1 := hz.below hb
  have hr1 := hr.below hb
  have hp1 := hp.below hb
  have hq1 := hq.below hb
  clear hg hd
  go_wp2_with fail
  refine (qr_any z p q r n w1 hz1 hr1 hp1 hq1 hM hzr hpz hpr).mono ?_
  rintro e w2 ⟨rfl, ho, hnr, hnz⟩
  have HF := Lib.hid (show QR z r (n % 18446744073709551616) W (.returned (.tuple #[.pointer (some ⟨z, 0, none⟩), .pointer (some ⟨r, 0, none⟩)])) w2 from
    ⟨rfl, ⟨ho.os.trans hb.os, ho.tape.trans hb.tape, ho.output.trans hb.output, Nat.le_trans hb.size ho.size, fun i hi h1 h2 => (ho.block i (Nat.lt_of_lt_of_le hi hb.size) h1 h2).trans (hb.block i hi)⟩, hnr, hnz⟩)
  obtain ⟨A, cap, c0, c1, hcap, hdd⟩ := hnr.facts
  clear ho hnz hb hz1 hr1 hp1 hq1 hdd hcap c1 hnr
  go_wp2_with fail
  go_ret2
  exact HF.out

theorem only_of_two {W W' : World} {z r : Nat} (h : Only2 W W' z r) (hz : W.heap.size ≤ z) : W.grownBy W' (some r) :=
  ⟨h.os, h.tape, h.output, h.size, fun i hi hne => h.block i hi (by omega) (by intro e; exact hne (by rw [e]))⟩

set_option maxHeartbeats 2000000 in
theorem mod_c (z p q n : Nat) (W : World) (hz : Slot W z) (hp : Num W p n) (hq : Num W q 18446744073709551616) (hM : (digs n).length + 1 ≤ 35184372088832) (hpz : p ≠ z) (hqz : q ≠ z) :
    Calls Try.prog 51 #[.pointer (some ⟨z, 0, none⟩), .pointer (some ⟨p, 0, none⟩), .pointer (some ⟨q, 0, none⟩)] W (Trimmed z (n % 18446744073709551616) W) := by
  have hql : q < W.heap.size := hq.lt
  have hpl := hp.lt
  have hzl := hz.lt
  go_enter Try.func51, Try.ntmps51
  go_wp2_with fail
  refine (divMod_c W.heap.size p q z n _ (Slot.new W) (hz.alloc _) (hp.alloc _) (hq.alloc _) hM (by omega) (by omega) hpz (by omega) hqz).mono ?_
  rintro e w1 ⟨rfl, ho, hn, hk⟩
  have hg : W.grownBy w1 (some z) := by
    refine ⟨ho.os, ho.tape, ho.output, Nat.le_trans (by simp) ho.size, fun i hi hne => ?_⟩
    exact (ho.block i (by simp; omega) (by omega) (by intro e; exact hne (by rw [e]))).trans (Below.heap_alloc W _ i hi)
  have HF := Lib.hid (show Trimmed z (n % 18446744073709551616) W (.returned (.pointer (some ⟨z, 0, none⟩))) w1 from ⟨rfl, hg, hn⟩)
  clear ho hn hk hg
  go_wp2_with fail
  go_ret
  exact HF.out

theorem newInt_one (W : World) : Calls Try.prog 48 #[.int .i64 1] W (Fresh 1 W) := newInt_c 1 (by decide) W

set_option maxHeartbeats 2000000 in
theorem aMod_c (p n : Nat) (W : World) (hp : Num W p n) (hM : (digs n).length + 1 ≤ 35184372088832) :
    Calls Try.prog 34 #[.pointer (some ⟨p, 0, none⟩)] W (Fresh (n % 18446744073709551616) W) := by
  have hpl := hp.lt
  go_enter Try.func34, Try.ntmps34
  go_wp2_with fail
  have s0 : Slot ((W.alloc (.cells #[.bool false, .slice none 0 0] 62)).alloc (.cells #[.bool false, .slice none 0 0] 62)) W.heap.size := (Slot.new W).alloc _
  have s1 : Slot ((W.alloc (.cells #[.bool false, .slice none 0 0] 62)).alloc (.cells #[.bool false, .slice none 0 0] 62)) (W.heap.size + 1) := by
    have h := Slot.new (W.alloc (.cells #[.bool false, .slice none 0 0] 62))
    rwa [show (W.alloc (.cells #[.bool false, .slice none 0 0] 62)).heap.size = W.heap.size + 1 by simp] at h
  have hb0 : Below W.heap.size W ((W.alloc (.cells #[.bool false, .slice none 0 0] 62)).alloc (.cells #[.bool false, .slice none 0 0] 62)) := ((Below.refl _ _).alloc (Nat.le_refl _) _).alloc (by simp) _
  have hp0 := hp.below hb0
  refine (newInt_one _).mono ?_
  rintro e w1 ⟨p1, rfl, hge, hb1, hn1⟩
  have hsz : ((W.alloc (.cells #[.bool false, .slice none 0 0] 62)).alloc (.cells #[.bool false, .slice none 0 0] 62)).heap.size = W.heap.size + 2 := by simp
  have s0' := s0.below hb1
  have s1' := s1.below hb1
  have hp1 := hp0.below hb1
  have hb01 : Below W.heap.size W w1 := hb0.trans (hb1.mono hb0.size)
  rw [hsz] at hge
  clear s0 s1 hb0 hp0 hb1 hsz
  go_wp2_with fail
  refine (lsh64_c (W.heap.size + 1) p1 w1 s1' hn1).mono ?_
  rintro e w2 ⟨rfl, hg2, hn2⟩
  have s0'' : Slot w2 W.heap.size := Slot.grown s0' hg2 (by omega)
  have hp2 : Num w2 p n := hp1.slotgrown hg2 s1' (by omega)
  have hb02 : Below W.heap.size W w2 := hb01.trans (below_of_new hg2 (by omega) hb01.size)
  clear s0' hp1 s1' hb01 hg2 hn1
  go_wp2_with fail
  refine (mod_c W.heap.size p (W.heap.size + 1) n w2 s0'' hp2 hn2 hM (by omega) (by omega)).mono ?_
  intro e w3 h3
  have HF := Lib.hid (show Fresh (n % 18446744073709551616) W (.returned (.pointer (some ⟨W.heap.size, 0, none⟩))) w3 from
    ⟨_, rfl, Nat.le_refl _, hb02.trans (below_of_new h3.2.1 (Nat.le_refl _) hb02.size), h3.2.2⟩)
  obtain ⟨rfl, _⟩ := h3
  clear s0'' hp2 hb02 hn2
  go_wp2_with fail
  go_ret
  exact HF.out
end Go.Proofs.Ytahhgeecikljdaa.Big
