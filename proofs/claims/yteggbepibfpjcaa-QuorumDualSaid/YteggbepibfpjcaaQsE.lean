/-
  slices.Sort at []uint16: order2Ordered, medianOrdered, medianAdjacentOrdered, choosePivotOrdered: only that the pivot lies in the range; the counter lies in a box.
-/
import Derived.Test.YteggbepibfpjcaaQsD
import Derived.RangeFuncBox
namespace Go.Proofs.Yteggbepibfpjcaa.Qs
set_option linter.unusedVariables false
set_option linter.unusedSimpArgs false
open Go.RowKit Mem Qr Go.Sort

/-- The row at (g, o) holds d; of what was there before only block g has turned. -/
def PLay (W : World) (g o : Nat) (d0 d : Array Nat) (V : World) : Prop := d.size = d0.size ∧ Holds w16 V g o d ∧ W.grownBy V (some g)
theorem grown_trans {W V X : World} {r : Option Nat} (h : W.grownBy V r) (k : V.grownBy X r) : W.grownBy X r :=
  ⟨k.os.trans h.os, k.tape.trans h.tape, k.output.trans h.output, Nat.le_trans h.size k.size, fun b hb hne => (k.block b (Nat.lt_of_lt_of_le hb h.size) hne).trans (h.block b hb hne)⟩
theorem grown_below {W V : World} (h : Below W.heap.size W V) (r : Option Nat) : W.grownBy V r := ⟨h.os, h.tape, h.output, h.size, fun b hb _ => h.block b hb⟩
section
variable {W V X : World} {g o : Nat} {d0 d d2 : Array Nat}
theorem Lay.grown (h : Lay W g o d0 d V) : W.grownBy V (some g) := by
  obtain ⟨_, _, q, rfl⟩ := h
  refine ⟨rfl, rfl, rfl, by simp [Sort.putRow, Sort.mapBlock, Sort.ahead], fun b _ hne => ?_⟩
  have hne : g ≠ b := fun e => hne (by rw [e])
  simp [Sort.putRow, Sort.mapBlock, Sort.ahead, Array.getElem?_modify, hne]
theorem Lay.p (h : Lay W g o d0 d V) : PLay W g o d0 d V := ⟨h.2.1, h.holds, h.grown⟩
theorem PLay.start (h : Holds w16 W g o d) : PLay W g o d d W := ⟨rfl, h, World.grownBy.refl _ _⟩
theorem PLay.trans (h : PLay W g o d0 d V) (k : PLay V g o d d2 X) : PLay W g o d0 d2 X := ⟨k.1.trans h.1, k.2.1, grown_trans h.2.2 k.2.2⟩
theorem PLay.drewN (h : PLay W g o d0 d V) (n : Nat) : PLay W g o d0 d (V.drewN n) := ⟨h.1, h.2.1, h.2.2.os, h.2.2.tape, h.2.2.output, h.2.2.size, h.2.2.block⟩
theorem PLay.undrawn {n : Nat} (h : PLay (W.drewN n) g o d0 d V) : PLay W g o d0 d V := ⟨h.1, h.2.1, h.2.2.os, h.2.2.tape, h.2.2.output, h.2.2.size, h.2.2.block⟩
theorem holds_lt (h : Holds w16 W g o d) (hd : 0 < d.size) : g < W.heap.size := World.block_lt_of_cell? _ _ (h 0 hd).1
theorem holds_grown {r : Option Nat} (h : Holds w16 W g o d) (hg : W.grownBy V r) (hne : some g ≠ r) : Holds w16 V g o d := fun j hj => by
  have hlt := World.block_lt_of_cell? _ _ (h j hj).1
  have e := hg.block g hlt hne
  exact ⟨(World.cell?_of_block (a := ⟨g, o + j, none⟩) e).trans (h j hj).1, (World.frozen?_of_block (a := ⟨g, o + j, none⟩) e).trans (h j hj).2⟩
end

/-- The counter's box s holds some number; only it has turned. -/
def Ctr (W : World) (s : Nat) (V : World) : Prop := (∃ k : Int, V.cell? ⟨s, 0, none⟩ = some (.int .i64 k)) ∧ V.frozen? ⟨s, 0, none⟩ = false ∧ W.grownBy V (some s)
section
variable {W V X : World} {s : Nat}
theorem Ctr.trans (h : Ctr W s V) (k : Ctr V s X) : Ctr W s X := ⟨k.1, k.2.1, grown_trans h.2.2 k.2.2⟩
theorem Ctr.drewN (h : Ctr W s V) (n : Nat) : Ctr W s (V.drewN n) := ⟨h.1, h.2.1, h.2.2.os, h.2.2.tape, h.2.2.output, h.2.2.size, h.2.2.block⟩
theorem Ctr.self (h : Ctr W s V) : Ctr V s V := ⟨h.1, h.2.1, World.grownBy.refl _ _⟩
theorem Ctr.set (h : Ctr W s V) (k : Int) : Ctr W s (V.setCell ⟨s, 0, none⟩ (.int .i64 k)) := by
  obtain ⟨⟨j, hj⟩, hf, hg⟩ := h
  have hg2 := grownBy_setCell' V s (.int .i64 k)
  refine ⟨⟨k, World.cell?_setCell_same _ _ _ hj⟩, ?_, grown_trans hg hg2⟩
  rw [World.frozen?_setCell]; exact hf
end

set_option maxRecDepth 100000 in
set_option maxHeartbeats 8000000 in
theorem order2_c (g o n ca a b s : Nat) (d : Array Nat) (W : World) (hH : Holds w16 W g o d) (hn : d.size = n) (hbig : n ≤ 70368744177664) (ha : a < n) (hb : b < n) (hC : Ctr W s W) :
    Calls Try.prog 64 #[.slice (some ⟨g, o, none⟩) n ca, .int .i64 a, .int .i64 b, .pointer (some ⟨s, 0, none⟩)] W
      (fun e W' => ∃ x y : Nat, (x = a ∧ y = b ∨ x = b ∧ y = a) ∧ e = .returned (.tuple #[.int .i64 x, .int .i64 y]) ∧ Ctr W s W') := by
  have i1 : (a : Int) < (n : Int) := by omega
  have i2 : (b : Int) < (n : Int) := by omega
  have c1 := (hH a (by omega)).1
  have c2 := (hH b (by omega)).1
  obtain ⟨x, hx⟩ : ∃ x, d[a]! = x := ⟨_, rfl⟩
  obtain ⟨y, hy⟩ : ∃ y, d[b]! = y := ⟨_, rfl⟩
  rw [hx] at c1
  rw [hy] at c2
  unfold w16 at c1 c2
  have CC := Lib.hid hC
  obtain ⟨⟨k, hk⟩, hf, _⟩ := CC.out
  clear hx hy hn hH hC
  cases hb : decide (y < x) with
  | true =>
    have HB := Lib.hid hb
    clear hb
    go_enter Try.func64, Try.ntmps64
    go_wp2
    go_quiet ((go_at_call 53; exact Calls.quiet_of_same (less_c y x _ true HB.out)))
    go_wp2
    go_ret2
    exact ⟨b, a, .inr ⟨rfl, rfl⟩, rfl, (CC.out.drewN _).set _⟩
  | false =>
    have HB := Lib.hid hb
    clear hb
    go_enter Try.func64, Try.ntmps64
    go_wp2
    go_quiet ((go_at_call 53; exact Calls.quiet_of_same (less_c y x _ false HB.out)))
    go_wp2
    go_ret2
    exact ⟨a, b, .inl ⟨rfl, rfl⟩, rfl, CC.out.drewN _⟩

set_option maxRecDepth 100000 in
set_option maxHeartbeats 8000000 in
theorem median_c (g o n ca a b c s : Nat) (d : Array Nat) (W : World) (hH : Holds w16 W g o d) (hn : d.size = n) (hbig : n ≤ 70368744177664) (ha : a < n) (hb : b < n) (hc : c < n) (hC : Ctr W s W) (hne : g ≠ s) :
    Calls Try.prog 62 #[.slice (some ⟨g, o, none⟩) n ca, .int .i64 a, .int .i64 b, .int .i64 c, .pointer (some ⟨s, 0, none⟩)] W
      (fun e W' => ∃ x : Nat, (x = a ∨ x = b ∨ x = c) ∧ e = .returned (.int .i64 x) ∧ Ctr W s W') := by
  have NE := Lib.hid (show some g ≠ some s from fun e => hne (by injection e))
  have HH := Lib.hid hH
  have O1 := Lib.hid (order2_c g o n ca a b s d W hH hn hbig ha hb hC)
  have HN := Lib.hid hn
  have AA := Lib.hid (show a < n ∧ b < n ∧ c < n from ⟨ha, hb, hc⟩)
  clear hH hC hne hn ha hb hc
  go_enter Try.func62, Try.ntmps62
  go_wp2_with fail
  refine O1.out.mono ?_
  rintro e w1 ⟨x1, y1, h1, rfl, hc1⟩
  have C1 := Lib.hid hc1
  have E1 := Lib.hid h1
  have O2 := Lib.hid (order2_c g o n ca y1 c s d w1 (holds_grown HH.out hc1.2.2 NE.out) HN.out hbig (by have := AA.out; omega) AA.out.2.2 hc1.self)
  clear hc1 h1
  go_wp2_with fail
  refine O2.out.mono ?_
  rintro e w2 ⟨x2, y2, h2, rfl, hc2⟩
  have C2 := Lib.hid (C1.out.trans hc2)
  have E2 := Lib.hid h2
  have O3 := Lib.hid (order2_c g o n ca x1 x2 s d w2 (holds_grown HH.out C2.out.2.2 NE.out) HN.out hbig (by have := AA.out; have := E1.out; omega) (by have := AA.out; have := E1.out; omega) C2.out.self)
  clear hc2 h2
  go_wp2_with fail
  refine O3.out.mono ?_
  rintro e w3 ⟨x3, y3, h3, rfl, hc3⟩
  have C3 := Lib.hid (C2.out.trans hc3)
  have E3 := Lib.hid h3
  clear hc3 h3
  go_wp2
  go_ret
  exact ⟨y3, by have := E1.out; have := E2.out; have := E3.out; omega, rfl, C3.out⟩

set_option maxRecDepth 100000 in
theorem medianAdj_c (g o n ca a s : Nat) (d : Array Nat) (W : World) (hH : Holds w16 W g o d) (hn : d.size = n) (hbig : n ≤ 70368744177664) (ha : 1 ≤ a) (ha1 : a + 1 < n) (hC : Ctr W s W) (hne : g ≠ s) :
    Calls Try.prog 61 #[.slice (some ⟨g, o, none⟩) n ca, .int .i64 a, .pointer (some ⟨s, 0, none⟩)] W
      (fun e W' => ∃ x : Nat, (a ≤ x + 1 ∧ x ≤ a + 1) ∧ e = .returned (.int .i64 x) ∧ Ctr W s W') := by
  obtain ⟨a0, h0⟩ : ∃ a0, a0 = a - 1 := ⟨_, rfl⟩
  obtain ⟨a2, h2⟩ : ∃ a2, a2 = a + 1 := ⟨_, rfl⟩
  have w1 : IntKind.i64.wrap ((a : Int) - 1) = (a0 : Int) := by rw [show (a : Int) - 1 = (a0 : Int) by omega]; exact IntWalk.i64_in _ (by omega)
  have w2 : IntKind.i64.wrap ((a : Int) + 1) = (a2 : Int) := by rw [show (a : Int) + 1 = (a2 : Int) by omega]; exact IntWalk.i64_in _ (by omega)
  have MM := Lib.hid (median_c g o n ca a0 a a2 s d W hH hn hbig (by omega) (by omega) (by omega) hC hne)
  have AA := Lib.hid (show a = a0 + 1 ∧ a2 = a + 1 by omega)
  clear hH hC hne hn ha ha1 h0 h2
  go_enter Try.func61, Try.ntmps61
  go_wp2_with fail
  refine MM.out.mono ?_
  rintro e w1 ⟨x, h1, rfl, hc1⟩
  have C1 := Lib.hid hc1
  have E1 := Lib.hid h1
  clear h1 hc1
  go_wp2
  go_ret
  exact ⟨x, by have := AA.out; have := E1.out; omega, rfl, C1.out⟩

set_option maxRecDepth 100000 in
set_option maxHeartbeats 8000000 in
theorem pivot_c (g o n ca a b : Nat) (d : Array Nat) (W : World) (hH : Holds w16 W g o d) (hn : d.size = n) (hbig : n ≤ 70368744177664) (hab : a + 12 < b) (hb : b ≤ n) :
    Calls Try.prog 50 #[.slice (some ⟨g, o, none⟩) n ca, .int .i64 a, .int .i64 b] W
      (fun e W' => ∃ p h : Nat, a ≤ p ∧ p < b ∧ (h = 0 ∨ h = 1 ∨ h = 2) ∧ e = .returned (.tuple #[.int .i64 p, .int .i64 h]) ∧ Below W.heap.size W W') := by
  obtain ⟨l, hl⟩ : ∃ l, l = b - a := ⟨_, rfl⟩
  obtain ⟨q, hq⟩ : ∃ q, q = l / 4 := ⟨_, rfl⟩
  obtain ⟨i, hi⟩ : ∃ i, i = a + q := ⟨_, rfl⟩
  obtain ⟨j, hj⟩ : ∃ j, j = a + q * 2 := ⟨_, rfl⟩
  obtain ⟨k, hk⟩ : ∃ k, k = a + q * 3 := ⟨_, rfl⟩
  have w1 : IntKind.i64.wrap ((b : Int) - (a : Int)) = (l : Int) := by rw [show (b : Int) - (a : Int) = (l : Int) by omega]; exact IntWalk.i64_in _ (by omega)
  have t1 : (l : Int).tdiv 4 = (q : Int) := by rw [Int.tdiv_eq_ediv_of_nonneg (by omega)]; omega
  have t2 : (l : Int) / 4 = (q : Int) := by omega
  have w2 : IntKind.i64.wrap (q : Int) = (q : Int) := IntWalk.i64_in _ (by omega)
  have w3 : IntKind.i64.wrap ((q : Int) * 2) = (q : Int) * 2 := IntWalk.i64_in _ (by omega)
  have w4 : IntKind.i64.wrap ((q : Int) * 3) = (q : Int) * 3 := IntWalk.i64_in _ (by omega)
  have w5 : IntKind.i64.wrap ((a : Int) + (q : Int)) = (i : Int) := by rw [show (a : Int) + (q : Int) = (i : Int) by omega]; exact IntWalk.i64_in _ (by omega)
  have w6 : IntKind.i64.wrap ((a : Int) + (q : Int) * 2) = (j : Int) := by rw [show (a : Int) + (q : Int) * 2 = (j : Int) by omega]; exact IntWalk.i64_in _ (by omega)
  have w7 : IntKind.i64.wrap ((a : Int) + (q : Int) * 3) = (k : Int) := by rw [show (a : Int) + (q : Int) * 3 = (k : Int) by omega]; exact IntWalk.i64_in _ (by omega)
  have g8 : (8 : Int) ≤ (l : Int) := by omega
  have NE := Lib.hid (show g ≠ W.heap.size from Nat.ne_of_lt (holds_lt hH (by omega)))
  have NS := Lib.hid (show some g ≠ some W.heap.size from fun e => NE.out (by injection e))
  have H0 := Lib.hid (holds_grown (V := W.alloc (.cells #[.int .i64 0] 3)) hH (World.grownBy_alloc W _ none) (by simp))
  have C0 := Lib.hid (show Ctr (W.alloc (.cells #[.int .i64 0] 3)) W.heap.size (W.alloc (.cells #[.int .i64 0] 3)) from ⟨⟨0, (Known.made W 3 #[.int .i64 0]).cell 0⟩, by simp, World.grownBy.refl _ _⟩)
  have B0 := Lib.hid (show Below W.heap.size W (W.alloc (.cells #[.int .i64 0] 3)) from (Below.refl _ _).alloc (Nat.le_refl _) _)
  have HN := Lib.hid hn
  by_cases hl50 : l < 50
  · have g50 : ¬ (50 : Int) ≤ (l : Int) := by omega
    have AA := Lib.hid (show a ≤ i ∧ i < b ∧ a ≤ j ∧ j < b ∧ a ≤ k ∧ k < b ∧ b ≤ n by omega)
    have MM := Lib.hid (median_c g o n ca i j k W.heap.size d _ H0.out hn hbig (by omega) (by omega) (by omega) C0.out NE.out)
    clear hH hn hab hb hl hq hi hj hk hl50
    go_enter Try.func50, Try.ntmps50
    go_wp2_with fail
    refine MM.out.mono ?_
    rintro e v1 ⟨p, hp, rfl, hc⟩
    have C1 := Lib.hid hc
    have E1 := Lib.hid hp
    clear hp hc
    obtain ⟨⟨kk, hk⟩, hf, _⟩ := C1.out
    have DN := Lib.hid ((C1.out.2.2))
    clear hf
    by_cases h0 : kk = 0
    · subst h0
      go_wp2
      go_ret2
      exact ⟨p, 1, by have := AA.out; have := E1.out; omega, by have := AA.out; have := E1.out; omega, by decide, rfl, B0.out.grown DN.out (by simp) (fun k hk => by injection hk with hk; omega)⟩
    · by_cases h12 : kk = 12
      · subst h12
        clear h0
        go_wp2
        go_ret2
        exact ⟨p, 2, by have := AA.out; have := E1.out; omega, by have := AA.out; have := E1.out; omega, by decide, rfl, B0.out.grown DN.out (by simp) (fun k hk => by injection hk with hk; omega)⟩
      · have e0 : (kk == 0) = false := by simpa using h0
        have e1 : (kk == 12) = false := by simpa using h12
        clear h0 h12
        go_wp2
        go_ret2
        exact ⟨p, 0, by have := AA.out; have := E1.out; omega, by have := AA.out; have := E1.out; omega, by decide, rfl, B0.out.grown DN.out (by simp) (fun k hk => by injection hk with hk; omega)⟩
  · have g50 : (50 : Int) ≤ (l : Int) := by omega
    have AA := Lib.hid (show a + 12 ≤ i ∧ i + 12 < b ∧ a + 12 ≤ j ∧ j + 12 < b ∧ a + 12 ≤ k ∧ k + 12 < b ∧ b ≤ n by omega)
    have M1 := Lib.hid (medianAdj_c g o n ca i W.heap.size d _ H0.out hn hbig (by omega) (by omega) C0.out NE.out)
    clear hH hn hab hb hl hq hi hj hk hl50
    go_enter Try.func50, Try.ntmps50
    go_wp2_with fail
    refine M1.out.mono ?_
    rintro e v1 ⟨p1, hp1, rfl, hc1⟩
    have C1 := Lib.hid hc1
    have E1 := Lib.hid hp1
    have M2 := Lib.hid (medianAdj_c g o n ca j W.heap.size d v1 (holds_grown H0.out hc1.2.2 NS.out) HN.out hbig (by have := AA.out; omega) (by have := AA.out; omega) hc1.self NE.out)
    clear hp1 hc1
    go_wp2_with fail
    refine M2.out.mono ?_
    rintro e v2 ⟨p2, hp2, rfl, hc2⟩
    have C2 := Lib.hid (C1.out.trans hc2)
    have E2 := Lib.hid hp2
    have M3 := Lib.hid (medianAdj_c g o n ca k W.heap.size d v2 (holds_grown H0.out C2.out.2.2 NS.out) HN.out hbig (by have := AA.out; omega) (by have := AA.out; omega) hc2.self NE.out)
    clear hp2 hc2
    go_wp2_with fail
    refine M3.out.mono ?_
    rintro e v3 ⟨p3, hp3, rfl, hc3⟩
    have C3 := Lib.hid (C2.out.trans hc3)
    have E3 := Lib.hid hp3
    have M4 := Lib.hid (median_c g o n ca p1 p2 p3 W.heap.size d v3 (holds_grown H0.out C3.out.2.2 NS.out) HN.out hbig (by have := AA.out; have := E1.out; omega) (by have := AA.out; have := E2.out; omega) (by have := AA.out; have := E3.out; omega) hc3.self NE.out)
    clear hp3 hc3
    go_wp2_with fail
    refine M4.out.mono ?_
    rintro e v4 ⟨p, hp, rfl, hc4⟩
    have C4 := Lib.hid (C3.out.trans hc4)
    have E4 := Lib.hid hp
    clear hp hc4
    obtain ⟨⟨kk, hk⟩, hf, _⟩ := C4.out
    have DN := Lib.hid ((C4.out.2.2))
    clear hf
    by_cases h0 : kk = 0
    · subst h0
      go_wp2
      go_ret2
      exact ⟨p, 1, by have := AA.out; have := E1.out; have := E2.out; have := E3.out; have := E4.out; omega, by have := AA.out; have := E1.out; have := E2.out; have := E3.out; have := E4.out; omega, by decide, rfl, B0.out.grown DN.out (by simp) (fun k hk => by injection hk with hk; omega)⟩
    · by_cases h12 : kk = 12
      · subst h12
        clear h0
        go_wp2
        go_ret2
        exact ⟨p, 2, by have := AA.out; have := E1.out; have := E2.out; have := E3.out; have := E4.out; omega, by have := AA.out; have := E1.out; have := E2.out; have := E3.out; have := E4.out; omega, by decide, rfl, B0.out.grown DN.out (by simp) (fun k hk => by injection hk with hk; omega)⟩
      · have e0 : (kk == 0) = false := by simpa using h0
        have e1 : (kk == 12) = false := by simpa using h12
        clear h0 h12
        go_wp2
        go_ret2
        exact ⟨p, 0, by have := AA.out; have := E1.out; have := E2.out; have := E3.out; have := E4.out; omega, by have := AA.out; have := E1.out; have := E2.out; have := E3.out; have := E4.out; omega, by decide, rfl, B0.out.grown DN.out (by simp) (fun k hk => by injection hk with hk; omega)⟩
end Go.Proofs.Yteggbepibfpjcaa.Qs
