/-
  The contract of (*Int).QuoRem for a divisor of 2^64.
-/
import Derived.Test.YtahhgeecikljdaaBigParts
import Derived.Test.YtahhgeecikljdaaBigCopy
namespace Go.Proofs.Ytahhgeecikljdaa.Big
set_option linter.unusedVariables false
open Go.RowKit

/-- Of what was there only blocks z and r have turned. -/
structure Only2 (W W' : World) (z r : Nat) : Prop where
  os : W'.os = W.os
  tape : W'.tape = W.tape
  output : W'.output = W.output
  size : W.heap.size ≤ W'.heap.size
  block : ∀ i, i < W.heap.size → i ≠ z → i ≠ r → W'.heap[i]? = W.heap[i]?
theorem Only2.refl (W : World) (z r : Nat) : Only2 W W z r := ⟨rfl, rfl, rfl, Nat.le_refl _, fun _ _ _ _ => rfl⟩
theorem Only2.left {W a b : World} {z r : Nat} (h : Only2 W a z r) (k : a.grownBy b (some z)) : Only2 W b z r :=
  ⟨k.os.trans h.os, k.tape.trans h.tape, k.output.trans h.output, Nat.le_trans h.size k.size, fun i hi h1 h2 => (k.block i (Nat.lt_of_lt_of_le hi h.size) (by intro e; injection e with e; exact h1 e)).trans (h.block i hi h1 h2)⟩
theorem Only2.right {W a b : World} {z r : Nat} (h : Only2 W a z r) (k : a.grownBy b (some r)) : Only2 W b z r :=
  ⟨k.os.trans h.os, k.tape.trans h.tape, k.output.trans h.output, Nat.le_trans h.size k.size, fun i hi h1 h2 => (k.block i (Nat.lt_of_lt_of_le hi h.size) (by intro e; injection e with e; exact h2 e)).trans (h.block i hi h1 h2)⟩
theorem Only2.below {W a b : World} {z r : Nat} (h : Only2 W a z r) (k : Below a.heap.size a b) : Only2 W b z r :=
  ⟨k.os.trans h.os, k.tape.trans h.tape, k.output.trans h.output, Nat.le_trans h.size k.size, fun i hi h1 h2 => (k.block i (Nat.lt_of_lt_of_le hi h.size)).trans (h.block i hi h1 h2)⟩
theorem Only2.drewN {W a : World} {z r : Nat} (h : Only2 W a z r) (k : Nat) : Only2 W (a.drewN k) z r := ⟨h.os, h.tape, h.output, h.size, h.block⟩
theorem Slot.grown {w w' : World} {z p : Nat} (h : Slot w p) (hg : w.grownBy w' (some z)) (hne : p ≠ z) : Slot w' p := by
  obtain ⟨a, b, h1, ha, hb⟩ := h
  exact ⟨a, b, h1.grown hg (by intro e; injection e with e; exact hne e), ha, hb⟩
theorem stored_slot {w : World} {z : Nat} (hz : Slot w z) (s : Bool) (A : Option Addr) (l c : Nat) : Slot (stored w z s (.slice A l c)) z := ⟨_, _, stored_cell hz s A l c, ⟨_, rfl⟩, _, _, _, rfl⟩
theorem Num.slotgrown {w w' : World} {p n z : Nat} (h : Num w p n) (hg : w.grownBy w' (some z)) (hz : Slot w z) (hne : p ≠ z) : Num w' p n := by
  obtain ⟨a, b, h1, _⟩ := hz
  exact h.grown hg h1 hne

theorem Slot.cellgrown {w : World} {z r : Nat} {s : Bool} {v : Value} (hr : Slot w r) (hne : z ≠ r) : (stored w z s v).cell? ⟨r, 0, none⟩ = w.cell? ⟨r, 0, none⟩ ∧ (stored w z s v).cell? ⟨r, 1, none⟩ = w.cell? ⟨r, 1, none⟩ :=
  ⟨World.cell?_of_block ((stored_grown w z s v).block r hr.lt (by intro e; injection e with e; exact hne e.symm)), World.cell?_of_block ((stored_grown w z s v).block r hr.lt (by intro e; injection e with e; exact hne e.symm))⟩
def QR (z r m : Nat) (W : World) (e : Ending) (W' : World) : Prop :=
  e = .returned (.tuple #[.pointer (some ⟨z, 0, none⟩), .pointer (some ⟨r, 0, none⟩)]) ∧ Only2 W W' z r ∧ Num W' r m ∧ ∃ k, Num W' z k

def both (w : World) (z r go g n m : Nat) : World := stored (stored w z false (.slice (some ⟨go, 0, none⟩) n n)) r false (.slice (some ⟨g, 0, none⟩) m m)
theorem both_cells {w : World} {z r go g n m : Nat} (hz : Slot w z) (hr : Slot w r) (hne : z ≠ r) : Cell (both w z r go g n m) z false (some ⟨go, 0, none⟩) n n ∧ Cell (both w z r go g n m) r false (some ⟨g, 0, none⟩) m m := by
  refine ⟨?_, stored_cell (Slot.grown hr (stored_grown w z false _) (Ne.symm hne)) false _ _ _⟩
  exact Blk.grown (stored_cell hz false (some ⟨go, 0, none⟩) n n) (stored_grown _ r false _) (by intro e; injection e with e; exact hne e)
theorem both_dig {w : World} {z r go g n m : Nat} (hz : Slot w z) (hr : Slot w r) (hne : z ≠ r) {A : Option Addr} {ds : List UInt32} (h : Dig w A ds) : Dig (both w z r go g n m) A ds :=
  dig_stored (Slot.grown hr (stored_grown w z false _) (Ne.symm hne)) (dig_stored hz h false _) false _
theorem both_one {w : World} {z r go g : Nat} {out l : List UInt32} (hz : Slot w z) (hr : Slot w r) (hne : z ≠ r) (ho : Blk w go 71 (rowOf out)) (hl : Blk w g 71 (rowOf l)) (hM : out.length ≤ 4611686018427387904) :
    Calls Try.prog 46 #[.pointer (some ⟨z, 0, none⟩)] (both w z r go g out.length l.length) (Trimmed z (val out) (both w z r go g out.length l.length)) :=
  trim_c z out.length _ out _ (both_cells hz hr hne).1 (both_dig hz hr hne ho.dig) (Nat.le_refl _) hM
theorem both_two {w w3 : World} {z r go g : Nat} {out l : List UInt32} {e : Ending} (hz : Slot w z) (hr : Slot w r) (hne : z ≠ r) (hl : Blk w g 71 (rowOf l)) (hM : l.length ≤ 4611686018427387904) (h : Trimmed z (val out) (both w z r go g out.length l.length) e w3) :
    Calls Try.prog 46 #[.pointer (some ⟨r, 0, none⟩)] w3 (Trimmed r (val l) w3) := by
  have hc := both_cells (go := go) (g := g) (n := out.length) (m := l.length) hz hr hne
  refine trim_c r l.length (some ⟨g, 0, none⟩) l w3 (Blk.grown hc.2 h.2.1 (by intro e; injection e with e; exact hne e.symm)) ?_ (Nat.le_refl _) hM
  refine (both_dig (go := go) (g := g) (n := out.length) (m := l.length) hz hr hne hl.dig).keep fun g' cs hg => hg.grown h.2.1 (by
    intro e
    injection e with e
    subst e
    exact absurd rfl (Blk.ne_ hg hc.1 (by decide)))
theorem both_end {W w w3 w4 : World} {z r go g : Nat} {out l : List UInt32} {e e' : Ending} (hz : Slot w z) (hr : Slot w r) (hne : z ≠ r) (hb : Below W.heap.size W w) (h : Trimmed z (val out) (both w z r go g out.length l.length) e w3) (h' : Trimmed r (val l) w3 e' w4) :
    QR z r (val l) W (.returned (.tuple #[.pointer (some ⟨z, 0, none⟩), .pointer (some ⟨r, 0, none⟩)])) w4 := by
  have hr3 : Slot w3 r := Slot.grown ⟨_, _, (both_cells (go := go) (g := g) (n := out.length) (m := l.length) hz hr hne).2, ⟨_, rfl⟩, _, _, _, rfl⟩ h.2.1 (Ne.symm hne)
  exact ⟨rfl, (((((Only2.refl W z r).below hb).left (stored_grown w z false _)).right (stored_grown _ r false _)).left h.2.1).right h'.2.1, h'.2.2, _, h.2.2.slotgrown h'.2.1 hr3 hne⟩

theorem digs_264 : digs 18446744073709551616 = [0, 0, 1] := by
  rw [digs_pos (by decide), show 18446744073709551616 / 4294967296 = 4294967296 by decide, digs_pos (by decide), show 4294967296 / 4294967296 = 1 by decide, digs_one]
  rfl

set_option maxHeartbeats 2000000 in
theorem qr_small (z p q r n : Nat) (W : World) (hz : Slot W z) (hr : Slot W r) (hp : Num W p n) (hq : Num W q 18446744073709551616) (hn : n < 18446744073709551616) (hzr : z ≠ r) (hpz : p ≠ z) (hpr : p ≠ r) :
    Calls Try.prog 75 #[.pointer (some ⟨z, 0, none⟩), .pointer (some ⟨p, 0, none⟩), .pointer (some ⟨q, 0, none⟩), .pointer (some ⟨r, 0, none⟩)] W (QR z r n W) := by
  have hlen : (digs n).length ≤ 2 := digs_len (k := 2) (by omega)
  have hl2 : (digs n).length ≤ 35184372088832 := by omega
  have key := cmp_c p q n 18446744073709551616 W hp hq hl2 (by rw [digs_264]; simp)
  have hcm : cmpInt n 18446744073709551616 = -1 := cmp_lt hn
  unfold Cmps at key
  rw [hcm] at key
  have KEY := Lib.hid key
  clear key hcm hlen hn
  go_enter Try.func75, Try.ntmps75
  go_wp2_with fail
  refine KEY.out.mono ?_
  rintro e w1 ⟨rfl, k, rfl⟩
  go_wp2_with fail
  refine (set_c r p n (W.drewN k) hr hp hl2).mono ?_
  rintro e w2 ⟨rfl, hg2, hr2⟩
  have hz2 : Slot w2 z := Slot.grown (w := W.drewN k) hz hg2 hzr
  go_wp2_with fail
  refine (setInt64_c z 0 (by omega) w2 hz2).mono ?_
  intro e w3 h3
  have HF := Lib.hid (show QR z r n W (.returned (.tuple #[.pointer (some ⟨z, 0, none⟩), .pointer (some ⟨r, 0, none⟩)])) w3 from
    ⟨rfl, (((Only2.refl W z r).drewN k).right hg2).left h3.2.1, hr2.slotgrown h3.2.1 hz2 (Ne.symm hzr), 0, h3.2.2⟩)
  obtain ⟨rfl, _⟩ := h3
  go_wp2_with fail
  go_ret2
  exact HF.out

set_option maxRecDepth 100000 in
set_option maxHeartbeats 4000000 in
theorem qr_large (z p q r n : Nat) (W : World) (hz : Slot W z) (hr : Slot W r) (hp : Num W p n) (hq : Num W q 18446744073709551616) (hn : 18446744073709551616 ≤ n) (hM : (digs n).length + 1 ≤ 35184372088832) (hzr : z ≠ r) (hpz : p ≠ z) (hpr : p ≠ r) :
    Calls Try.prog 75 #[.pointer (some ⟨z, 0, none⟩), .pointer (some ⟨p, 0, none⟩), .pointer (some ⟨q, 0, none⟩), .pointer (some ⟨r, 0, none⟩)] W (QR z r (n % 18446744073709551616) W) := by
  have hlen : 3 ≤ (digs n).length := by
    rcases Nat.lt_or_ge (digs n).length 3 with h | h
    · have h1 := val_lt (digs n)
      rw [val_digs] at h1
      have h2 : 4294967296 ^ (digs n).length ≤ 4294967296 ^ 2 := Nat.pow_le_pow_right (by omega) (by omega)
      omega
    · exact h
  have key := cmp_c p q n 18446744073709551616 W hp hq (by omega) (by rw [digs_264]; simp)
  have hcm : ∃ c : Int, cmpInt n 18446744073709551616 = c ∧ 0 ≤ c := by
    unfold cmpInt
    rw [if_neg (by omega)]
    split
    · exact ⟨0, rfl, by omega⟩
    · exact ⟨1, rfl, by omega⟩
  obtain ⟨c, hc, hc0⟩ := hcm
  unfold Cmps at key
  rw [hc] at key
  have KEY := Lib.hid key
  obtain ⟨A, cap, c0, c1, hcap, hd⟩ := hp.facts
  obtain ⟨B, capB, e0, e1, hcapB, he⟩ := hq.facts
  rw [digs_264] at e1 he
  simp only [List.length_cons, List.length_nil, Nat.zero_add, Nat.reduceAdd] at e1
  obtain ⟨gy, cy, u0, rfl, hby, hu0, y0⟩ := he.at_ (k := 0) (by simp)
  obtain ⟨gy', _, u1, hgy1, _, hu1, y1⟩ := he.at_ (k := 1) (by simp)
  obtain rfl : gy = gy' := by injection hgy1 with hgy1; injection hgy1
  obtain ⟨gy'', _, u2, hgy2, _, hu2, y2⟩ := he.at_ (k := 2) (by simp)
  obtain rfl : gy = gy'' := by injection hgy2 with hgy2; injection hgy2
  obtain rfl : u0 = 0 := by injection hu0 with h; exact h.symm
  obtain rfl : u1 = 0 := by injection hu1 with h; exact h.symm
  obtain rfl : u2 = 1 := by injection hu2 with h; exact h.symm
  have HV := Lib.hid (val_digs n)
  have hpl := hp.lt
  clear key hc hu0 hu1 hu2 hgy1 hgy2 hp hq
  generalize digs n = a at *
  have ha3 : ¬ ((a.length : Int) < 3) := by omega
  have ha4 : decide ((a.length : Int) < 3) = false := decide_eq_false ha3
  go_enter Try.func75, Try.ntmps75
  go_wp2_with fail
  refine KEY.out.mono ?_
  rintro e w1 ⟨rfl, k, rfl⟩
  go_wp2
  go_quiet (fail)
  go_wp2
  go_region_with (go_at_call 82; refine (parts_c A gy cap capB a _ (hd.drewN _) hlen hM ⟨cy, hby⟩ y0 y1 y2).mono ?_; rintro e w2 ⟨go, out, g, l, rfl, hb2, hBo, hol, hBl, hll, hv⟩; have hz2 : Slot w2 z := (hz.drewN _).below hb2; have hr2 : Slot w2 r := (hr.drewN _).below hb2; obtain ⟨s1, A1, l1, cc1, i0, i1, j0, j1, hlt1⟩ := hz2.facts; obtain ⟨s3, A3, l3, cc3, m0, m1, n0, n1, hlt3⟩ := hr2.facts)
  all_goals
    have hb0 : Below W.heap.size W w2 := Below.undraw hb2
    have HG := Lib.hid hb0
    have HL := Lib.hid hll
    have HO := Lib.hid hol
    have HW := Lib.hid hv
    clear hb0 hb2 hll hol hv
    have hrz : r ≠ z := Ne.symm hzr
    go_wp2_with fail
    have k1 := both_one hz2 hr2 hzr hBo hBl (by rw [HO.out]; omega)
    have K2 := Lib.hid (fun (e3 : Ending) (w3 : World) (h : Trimmed z (val out) (both w2 z r go g out.length l.length) e3 w3) => both_two hz2 hr2 hzr hBl (by rw [HL.out]; omega) h)
    have K3 := Lib.hid (fun (e3 e4 : Ending) (w3 w4 : World) (h : Trimmed z (val out) (both w2 z r go g out.length l.length) e3 w3) (h' : Trimmed r (val l) w3 e4 w4) => both_end (go := go) (g := g) hz2 hr2 hzr HG.out h h')
    rw [HO.out, HL.out] at k1
    refine k1.mono ?_
    intro e3 w3 h3
    rw [← HO.out, ← HL.out] at h3
    have H3 := Lib.hid h3
    obtain ⟨rfl, _⟩ := h3
    clear k1
    go_wp2_with fail
    refine (K2.out _ _ H3.out).mono ?_
    intro e4 w4 h4
    have hfin := K3.out _ _ _ _ H3.out h4
    rw [HW.out, HV.out] at hfin
    have HF := Lib.hid hfin
    obtain ⟨rfl, _⟩ := h4
    clear hfin
    go_wp2_with fail
    go_ret2
    exact HF.out
end Go.Proofs.Ytahhgeecikljdaa.Big
