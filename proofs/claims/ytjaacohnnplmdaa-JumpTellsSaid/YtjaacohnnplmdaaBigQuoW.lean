/-
  The contracts of (*Int).QuoRem, DivMod and Div for a number and a divisor of one word, the divisor not greater; the answer may lie where the number lay.
-/
import Derived.Test.YtjaacohnnplmdaaBigQuo
namespace Go.Proofs.Ytjaacohnnplmdaa.Big
set_option linter.unusedVariables false
open Go.RowKit

/-- Of what was there only blocks z and r have turned; z holds the quotient, r the rest. -/
def QW (z r k m : Nat) (W : World) (e : Ending) (W' : World) : Prop :=
  e = .returned (.tuple #[.pointer (some ⟨z, 0, none⟩), .pointer (some ⟨r, 0, none⟩)]) ∧ Only2 W W' z r ∧ Num W' r m ∧ Num W' z k
theorem len_word (x : UInt64) : (digs x.toNat).length < 3 := by
  have := x.toNat_lt
  have := digs_len (n := x.toNat) (k := 2) (by omega)
  omega
/-- Both signs stored anew. -/
def signs (w : World) (z r : Nat) : World := (w.setCell ⟨z, 0, none⟩ (.bool false)).setCell ⟨r, 0, none⟩ (.bool false)
theorem Num.sign {w : World} {z n : Nat} (h : Num w z n) : Num (w.setCell ⟨z, 0, none⟩ (.bool false)) z n := by
  obtain ⟨A, cap, h1, h2, h3⟩ := h
  refine ⟨A, cap, Blk.set_ h1 0 _, h2.keep fun g cs hg => hg.far ?_ _, h3⟩
  intro e
  have e2 : g = z := e
  subst e2
  exact absurd rfl (Blk.ne_ hg h1 (by decide))
theorem Num.far {w : World} {z r n : Nat} (h : Num w z n) (hr : Slot w r) (hne : z ≠ r) (u : Value) : Num (w.setCell ⟨r, 0, none⟩ u) z n := by
  obtain ⟨A, cap, h1, h2, h3⟩ := h
  obtain ⟨a, b, hb, _⟩ := hr
  refine ⟨A, cap, Blk.far h1 hne _, h2.keep fun g cs hg => hg.far ?_ _, h3⟩
  intro e
  have e2 : g = r := e
  subst e2
  exact absurd rfl (Blk.ne_ hg hb (by decide))
theorem signs_num {w : World} {z r k m : Nat} (hz : Num w z k) (hr : Num w r m) (hne : z ≠ r) : Num (signs w z r) z k ∧ Num (signs w z r) r m :=
  ⟨(hz.sign).far (hr.far hz.slot (Ne.symm hne) _).slot hne _, (hr.far hz.slot (Ne.symm hne) _).sign⟩
theorem signs_only {W w : World} {z r : Nat} (h : Only2 W w z r) : Only2 W (signs w z r) z r :=
  (h.left (only_setCell (p := ⟨z, 0, none⟩) (only_refl _ _) (.inl rfl) _)).right (only_setCell (p := ⟨r, 0, none⟩) (only_refl _ _) (.inl rfl) _)
theorem trim_num (z n : Nat) (W : World) (h : Num W z n) (hn : (digs n).length ≤ 4611686018427387904) :
    Calls Try.prog 37 #[.pointer (some ⟨z, 0, none⟩)] W (Trimmed z n W) := by
  obtain ⟨A, cap, h1, h2, h3⟩ := h
  have := trim_c z cap A (digs n) W h1 h2 h3 hn
  rw [val_digs] at this
  exact this
theorem Num.frozen0 {w : World} {z n : Nat} (h : Num w z n) : w.frozen? ⟨z, 0, none⟩ = false := by
  obtain ⟨A, cap, h1, _⟩ := h
  exact Blk.frozen h1 0
theorem cmp_ge {n m : Nat} (h : m ≤ n) : ∃ c : Int, cmpInt n m = c ∧ 0 ≤ c := by
  unfold cmpInt
  rw [if_neg (by omega)]
  split
  · exact ⟨0, rfl, by omega⟩
  · exact ⟨1, rfl, by omega⟩

set_option maxRecDepth 100000 in
set_option maxHeartbeats 2000000 in
theorem quoRem_w (z p q r : Nat) (x y : UInt64) (W : World) (hz : Slot W z) (hr : Slot W r) (hp : Num W p x.toNat) (hq : Num W q y.toNat) (hy : 1 ≤ y.toNat) (hxy : y.toNat ≤ x.toNat) (hzr : z ≠ r) :
    Calls Try.prog 44 #[.pointer (some ⟨z, 0, none⟩), .pointer (some ⟨p, 0, none⟩), .pointer (some ⟨q, 0, none⟩), .pointer (some ⟨r, 0, none⟩)] W (QW z r (x.toNat / y.toNat) (x.toNat % y.toNat) W) := by
  have hlx := len_word x
  have hly := len_word y
  have hxl := x.toNat_lt
  have hyl := y.toNat_lt
  have key := cmp_c p q x.toNat y.toNat W hp hq (by omega) (by omega)
  obtain ⟨c, hc, hc0⟩ := cmp_ge hxy
  unfold Cmps at key
  rw [hc] at key
  have KEY := Lib.hid key
  have hux := fun k => uint64_c p x.toNat (W.drewN k) hp
  have huy := fun k => uint64_c q y.toNat (W.drewN k) hq
  rw [Nat.mod_eq_of_lt hxl] at hux
  rw [Nat.mod_eq_of_lt hyl] at huy
  have HX := Lib.hid hux
  have HY := Lib.hid huy
  obtain ⟨A, cap, c0, c1, hcap, hd⟩ := hp.facts
  obtain ⟨B, capB, e0, e1, hcapB, he⟩ := hq.facts
  clear hux huy key hc hd he hcap hcapB e1
  have hq1 : (x.toNat : Int).tdiv (y.toNat : Int) = ((x / y).toNat : Int) := by
    rw [UInt64.toNat_div]; rfl
  have hr1 : (x.toNat : Int).tmod (y.toNat : Int) = ((x % y).toNat : Int) := by
    rw [UInt64.toNat_mod]; rfl
  have w1 : IntKind.u64.wrap ((x / y).toNat : Int) = ((x / y).toNat : Int) := IntWalk.u64_in _ (by have := (x / y).toNat_lt; have := (x % y).toNat_lt; omega)
  have w2 : IntKind.u64.wrap ((x % y).toNat : Int) = ((x % y).toNat : Int) := IntWalk.u64_in _ (by have := (x / y).toNat_lt; have := (x % y).toNat_lt; omega)
  have hy0 : ((y.toNat : Int) == 0) = false := by rw [beq_eq_false_iff_ne]; omega
  have hy1 : ¬ (y.toNat : Int) = 0 := by omega
  have HQ := Lib.hid (UInt64.toNat_div x y)
  have HR := Lib.hid (UInt64.toNat_mod x y)
  generalize (digs x.toNat).length = lx at *
  have dl : decide ((lx : Int) < 3) = true := decide_eq_true (by omega)
  generalize hxx : x.toNat = X at *
  generalize hyy : y.toNat = Y at *
  generalize x / y = xq at *
  generalize x % y = xr at *
  clear hxx hyy hp hq
  go_enter Try.func44, Try.ntmps44
  go_wp2_with fail
  refine KEY.out.mono ?_
  rintro e w1 ⟨rfl, k, rfl⟩
  go_wp2
  go_quiet (fail)
  go_wp2_with fail
  have kx := HX.out
  have ky := HY.out
  refine (kx _).mono ?_
  rintro e w2 ⟨rfl, rfl⟩
  go_wp2_with fail
  refine (ky _).mono ?_
  rintro e w2 ⟨rfl, rfl⟩
  clear kx ky
  go_wp2_with fail
  refine (setUint64_c z xq _ (hz.drewN _)).mono ?_
  rintro e w2 ⟨rfl, hg2, hz2⟩
  have o2 := ((Only2.refl W z r).drewN _).left hg2
  have hr2 : Slot w2 r := Slot.grown (hr.drewN _) hg2 (Ne.symm hzr)
  clear hg2
  go_wp2_with fail
  refine (setUint64_c r xr _ hr2).mono ?_
  rintro e w3 ⟨rfl, hg3, hr3⟩
  have o3 := o2.right hg3
  have hz3 : Num w3 z xq.toNat := hz2.slotgrown hg3 hr2 hzr
  have hzl := hz3.lt
  have hrl := hr3.lt
  obtain ⟨A1, ca1, z0, z1, _, _⟩ := hz3.facts
  obtain ⟨A2, ca2, r0, r1, _, _⟩ := hr3.facts
  have f1 : w3.frozen? ⟨z, 0, none⟩ = false := hz3.frozen0
  have f2 : w3.frozen? ⟨r, 0, none⟩ = false := hr3.frozen0
  have N := Lib.hid (signs_num hz3 hr3 hzr)
  have O3 := Lib.hid (signs_only o3)
  have T1 := Lib.hid (trim_num z xq.toNat (signs w3 z r) N.out.1 (by have := len_word xq; omega))
  clear hg3 o2 hr2 hz2 o3 z1 r1 hz3 hr3
  go_wp2_with fail
  refine T1.out.mono ?_
  rintro e w4 ⟨rfl, hg4, hz4⟩
  have O4 := O3.out.left hg4
  have hr4 : Num w4 r xr.toNat := N.out.2.slotgrown hg4 N.out.1.slot (Ne.symm hzr)
  clear hg4
  go_wp2_with fail
  refine (trim_num r xr.toNat w4 hr4 (by have := len_word xr; omega)).mono ?_
  rintro e w5 ⟨rfl, hg5, hr5⟩
  have O5 := O4.right hg5
  have hz5 : Num w5 z xq.toNat := hz4.slotgrown hg5 hr4.slot hzr
  have HF := Lib.hid (show QW z r (X / Y) (X % Y) W (.returned (.tuple #[.pointer (some ⟨z, 0, none⟩), .pointer (some ⟨r, 0, none⟩)])) w5 from
    ⟨rfl, O5, HR.out ▸ hr5, HQ.out ▸ hz5⟩)
  clear hg5 O5 O4 hz5 hr5 hz4 hr4
  go_wp2_with fail
  go_ret2
  exact HF.out

set_option maxHeartbeats 2000000 in
theorem divMod_w (z p q r : Nat) (x y : UInt64) (W : World) (hz : Slot W z) (hr : Slot W r) (hp : Num W p x.toNat) (hq : Num W q y.toNat) (hy : 1 ≤ y.toNat) (hxy : y.toNat ≤ x.toNat) (hzr : z ≠ r) :
    Calls Try.prog 41 #[.pointer (some ⟨z, 0, none⟩), .pointer (some ⟨p, 0, none⟩), .pointer (some ⟨q, 0, none⟩), .pointer (some ⟨r, 0, none⟩)] W (QW z r (x.toNat / y.toNat) (x.toNat % y.toNat) W) := by
  have hql : q < W.heap.size := hq.lt
  have hpl := hp.lt
  have hzl := hz.lt
  have hrl := hr.lt
  have hq1 : Num (W.alloc (.cells #[.bool false, .slice none 0 0] 49)) q y.toNat := hq.alloc _
  have h2 : (digs y.toNat).length ≤ 35184372088832 := by have := len_word y; omega
  have HQ := Lib.hid hq1
  have H2 := Lib.hid h2
  clear hq1 h2
  go_enter Try.func41, Try.ntmps41
  go_wp2_with fail
  refine (set_c W.heap.size q y.toNat _ (Slot.new W) HQ.out H2.out).mono ?_
  rintro e w1 ⟨rfl, hg, hd⟩
  have hb : Below W.heap.size W w1 := below_of_new (only_trans (only_alloc (only_refl W (some W.heap.size)) _) hg) (Nat.le_refl _) (Nat.le_refl _)
  have hz1 := hz.below hb
  have hr1 := hr.below hb
  have hp1 := hp.below hb
  have hq1 := hq.below hb
  clear hg hd
  go_wp2_with fail
  refine (quoRem_w z p q r x y w1 hz1 hr1 hp1 hq1 hy hxy hzr).mono ?_
  rintro e w2 ⟨rfl, ho, hnr, hnz⟩
  have HF := Lib.hid (show QW z r (x.toNat / y.toNat) (x.toNat % y.toNat) W (.returned (.tuple #[.pointer (some ⟨z, 0, none⟩), .pointer (some ⟨r, 0, none⟩)])) w2 from
    ⟨rfl, ⟨ho.os.trans hb.os, ho.tape.trans hb.tape, ho.output.trans hb.output, Nat.le_trans hb.size ho.size, fun i hi h1 h2 => (ho.block i (Nat.lt_of_lt_of_le hi hb.size) h1 h2).trans (hb.block i hi)⟩, hnr, hnz⟩)
  obtain ⟨A, cap, c0, c1, hcap, hdd⟩ := hnr.facts
  clear ho hnz hb hz1 hr1 hp1 hq1 hdd hcap c1 hnr
  go_wp2_with fail
  go_ret2
  exact HF.out

set_option maxHeartbeats 2000000 in
theorem div_w (z p q : Nat) (x y : UInt64) (W : World) (hz : Slot W z) (hp : Num W p x.toNat) (hq : Num W q y.toNat) (hy : 1 ≤ y.toNat) (hxy : y.toNat ≤ x.toNat) :
    Calls Try.prog 25 #[.pointer (some ⟨z, 0, none⟩), .pointer (some ⟨p, 0, none⟩), .pointer (some ⟨q, 0, none⟩)] W (Trimmed z (x.toNat / y.toNat) W) := by
  have hql : q < W.heap.size := hq.lt
  have hpl := hp.lt
  have hzl := hz.lt
  go_enter Try.func25, Try.ntmps25
  go_wp2_with fail
  refine (divMod_w z p q W.heap.size x y _ (hz.alloc _) (Slot.new W) (hp.alloc _) (hq.alloc _) hy hxy (by omega)).mono ?_
  rintro e w1 ⟨rfl, ho, hm, hn⟩
  have hg : W.grownBy w1 (some z) := by
    refine ⟨ho.os, ho.tape, ho.output, Nat.le_trans (by simp) ho.size, fun i hi hne => ?_⟩
    exact (ho.block i (by simp; omega) (by intro e; exact hne (by rw [e])) (by omega)).trans (Below.heap_alloc W _ i hi)
  have HF := Lib.hid (show Trimmed z (x.toNat / y.toNat) W (.returned (.pointer (some ⟨z, 0, none⟩))) w1 from ⟨rfl, hg, hn⟩)
  clear ho hn hm hg
  go_wp2_with fail
  go_ret
  exact HF.out
end Go.Proofs.Ytjaacohnnplmdaa.Big
