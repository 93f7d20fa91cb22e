/-
  slices.Sort at []uint16: breakPatternsOrdered: it changes places within the range.
-/
import Derived.Test.YteggbepibfpjcaaQsE
import Derived.Test.YteggbepibfpjcaaShXor
import Derived.BigRegion
import Derived.Sort.LotD1
namespace Go.Proofs.Yteggbepibfpjcaa.Qs
set_option linter.unusedVariables false
set_option linter.unusedSimpArgs false
open Go.RowKit Mem Qr Go.Sort

theorem xnext_c (s r : Nat) (hr : r < 18446744073709551616) (W : World) (hc : W.cell? ⟨s, 0, none⟩ = some (.int .u64 r)) (hf : W.frozen? ⟨s, 0, none⟩ = false) :
    Calls Try.prog 60 #[.pointer (some ⟨s, 0, none⟩)] W
      (fun e W' => ∃ r' : Nat, r' < 18446744073709551616 ∧ e = .returned (.int .u64 r') ∧ W'.cell? ⟨s, 0, none⟩ = some (.int .u64 r') ∧ W'.frozen? ⟨s, 0, none⟩ = false ∧ W.grownBy W' (some s)) := by
  refine (AnyF.xorshift_Next Try.xnext s 0 r hr W hc hf).mono ?_
  rintro e w' ⟨rfl, rfl⟩
  have hg := grownBy_setCell' W s (.int .u64 ((xorNextN r : Nat) : Int))
  refine ⟨_, xorNextN_lt _ hr, rfl, World.cell?_setCell_same _ _ _ hc, ?_, ⟨hg.os, hg.tape, hg.output, hg.size, hg.block⟩⟩
  show (W.setCell _ _).frozen? _ = false
  rw [World.frozen?_setCell]; exact hf
theorem npow_c (n : Nat) (hn : n < 4611686018427387904) (W : World) : Calls Try.prog 59 #[.int .i64 n] W (fun e W' => e = .returned (.int .u64 ((1 <<< bitsLen n : Nat) : Int)) ∧ W' = W) :=
  AnyF.nextPowerOfTwo Try.npow n hn W
theorem wraps_u64 (n : Int) (h₀ : 0 ≤ n) (h₁ : n < 2 ^ 64) : IntKind.u64.wrap n = n := by rw [IntKind.wrap_u64]; omega
theorem and64 {a b : Nat} (ha : a < 18446744073709551616) (hb : b < 18446744073709551616) : bits .and .u64 (a : Int) (b : Int) = ((a &&& b : Nat) : Int) := (bits_nat .u64 64 (by decide) wraps_u64 a b ha hb).1
theorem grown_new {W V X : World} {r : Option Nat} {s : Nat} (h : W.grownBy V r) (k : V.grownBy X (some s)) (hs : W.heap.size ≤ s) : W.grownBy X r :=
  ⟨k.os.trans h.os, k.tape.trans h.tape, k.output.trans h.output, Nat.le_trans h.size k.size, fun b hb hne => (k.block b (Nat.lt_of_lt_of_le hb h.size) (fun e => by injection e with e; omega)).trans (h.block b hb hne)⟩
/-- The state of the loop: the row is another order of itself; the box holds some word. -/
def Brk (W : World) (g o a b : Nat) (d : Array Nat) (d1 : Array Nat) (V : World) : Prop :=
  (∃ r : Nat, r < 18446744073709551616 ∧ V.cell? ⟨W.heap.size, 0, none⟩ = some (.int .u64 r) ∧ V.frozen? ⟨W.heap.size, 0, none⟩ = false) ∧ PermIn a b d d1 ∧ Holds w16 V g o d1 ∧ W.grownBy V (some g) ∧ W.heap.size < V.heap.size
theorem Brk.swp {W V X : World} {g o a b i j : Nat} {d d1 : Array Nat} (h : Brk W g o a b d d1 V) (hg : g ≠ W.heap.size) (hb : b ≤ d.size) (hi : a ≤ i) (hi2 : i < b) (hj : a ≤ j) (hj2 : j < b) (k : Lay V g o d1 (Sort.swp d1 i j) X) : Brk W g o a b d (Sort.swp d1 i j) X := by
  obtain ⟨⟨r, hr, hc, hf⟩, hp, hh, hw, hs⟩ := h
  have e := k.grown.block W.heap.size hs (fun e => hg (by injection e with e; exact e.symm))
  exact ⟨⟨r, hr, (World.cell?_of_block (a := ⟨W.heap.size, 0, none⟩) e).trans hc, (World.frozen?_of_block (a := ⟨W.heap.size, 0, none⟩) e).trans hf⟩,
    permIn_trans _ _ _ a b hp (swp_permIn _ a b i j hi hi2 hj hj2 (by rw [hp.1]; exact hb)), k.holds, grown_trans hw k.grown, Nat.lt_of_lt_of_le hs k.grown.size⟩
set_option maxRecDepth 100000 in
set_option maxHeartbeats 16000000 in
theorem break_c (g o n ca a b : Nat) (d : Array Nat) (W : World) (hH : Holds w16 W g o d) (hn : d.size = n) (hbig : n ≤ 70368744177664) (hab : a + 12 < b) (hb : b ≤ n) :
    Calls Try.prog 49 #[.slice (some ⟨g, o, none⟩) n ca, .int .i64 a, .int .i64 b] W
      (fun e W' => ∃ d' : Array Nat, e = .returned (.tuple #[]) ∧ PermIn a b d d' ∧ PLay W g o d d' W') := by
  obtain ⟨l, hl⟩ : ∃ l, l = b - a := ⟨_, rfl⟩
  obtain ⟨q, hq⟩ : ∃ q, q = l / 4 := ⟨_, rfl⟩
  obtain ⟨m, hm⟩ : ∃ m, m = a + q * 2 := ⟨_, rfl⟩
  obtain ⟨i0, hi0⟩ : ∃ i0, i0 = m - 1 := ⟨_, rfl⟩
  obtain ⟨m1, hm1⟩ : ∃ m1, m1 = m + 1 := ⟨_, rfl⟩
  have w1 : IntKind.i64.wrap ((b : Int) - (a : Int)) = (l : Int) := by rw [show (b : Int) - (a : Int) = (l : Int) by omega]; exact IntWalk.i64_in _ (by omega)
  have t1 : (l : Int).tdiv 4 = (q : Int) := by rw [Int.tdiv_eq_ediv_of_nonneg (by omega)]; omega
  have t2 : (l : Int) / 4 = (q : Int) := by omega
  have w2 : IntKind.i64.wrap (q : Int) = (q : Int) := IntWalk.i64_in _ (by omega)
  have w3 : IntKind.i64.wrap ((q : Int) * 2) = (q : Int) * 2 := IntWalk.i64_in _ (by omega)
  have w4 : IntKind.i64.wrap ((a : Int) + (q : Int) * 2) = (m : Int) := by rw [show (a : Int) + (q : Int) * 2 = (m : Int) by omega]; exact IntWalk.i64_in _ (by omega)
  have w5 : IntKind.i64.wrap ((m : Int) - 1) = (i0 : Int) := by rw [show (m : Int) - 1 = (i0 : Int) by omega]; exact IntWalk.i64_in _ (by omega)
  have w6 : IntKind.i64.wrap ((m : Int) + 1) = (m1 : Int) := by rw [show (m : Int) + 1 = (m1 : Int) by omega]; exact IntWalk.i64_in _ (by omega)
  have w7 : IntKind.u64.wrap (l : Int) = (l : Int) := wraps_u64 _ (by omega) (by omega)
  have g8 : (8 : Int) ≤ (l : Int) := by omega
  have NE := Lib.hid (show g ≠ W.heap.size from Nat.ne_of_lt (holds_lt hH (by omega)))
  obtain ⟨M, hM⟩ : ∃ M, M = 1 <<< bitsLen l := ⟨_, rfl⟩
  have hM2 : M = 2 ^ bitsLen l := by rw [hM, Nat.one_shiftLeft]
  have hMl : M ≤ 2 * l := by rw [hM2]; exact two_pow_bitsLen_le (by omega)
  have hM1 : 1 ≤ M := by rw [hM2]; exact Nat.one_le_two_pow
  have w8 : IntKind.u64.wrap ((M : Int) - 1) = ((M - 1 : Nat) : Int) := by rw [show (M : Int) - 1 = ((M - 1 : Nat) : Int) by omega]; exact wraps_u64 _ (by omega) (by omega)
  obtain ⟨Q, hQ⟩ : ∃ Q, Q = M - 1 := ⟨_, rfl⟩
  rw [← hQ] at w8
  have NP := Lib.hid (fun V => hM ▸ npow_c l (by omega) V)
  have HN := Lib.hid hn
  have AA := Lib.hid (show a ≤ i0 ∧ m1 < b ∧ i0 ≤ m1 ∧ b ≤ n ∧ b = a + l ∧ Q < 2 * l by omega)
  have B0 := Lib.hid (show Brk W g o a b d d (W.alloc (.cells #[.int .u64 (l : Int)] 73)) from
    ⟨⟨l, by omega, (Known.made W 73 #[.int .u64 (l : Int)]).cell 0, by simp⟩, permIn_refl _ _ _, holds_grown hH (World.grownBy_alloc W _ none) (by simp), World.grownBy_alloc W _ (some g), by simp⟩)
  clear hH hn hab hb hl hq hm hi0 hm1 hM hM2 hMl hM1 hQ
  go_enter Try.func49, Try.ntmps49
  go_wp2_with (go_at_call 59; refine (NP.out _).mono ?_; rintro e w' ⟨rfl, rfl⟩)
  go_loopw [9] (fun i_ V => ∃ (i : Nat) (d1 : Array Nat), i_ = .int .i64 i ∧ i0 ≤ i ∧ i ≤ m1 + 1 ∧ Brk W g o a b d d1 V) (fun i_ _ => m1 + 1 - (intOf i_).toNat)
  case atStart => exact ⟨i0, d, rfl, Nat.le_refl _, by have := AA.out; omega, B0.out⟩
  case round =>
    obtain ⟨i, d1, rfl, hi0, him, hL⟩ := hrel
    have LL := Lib.hid hL
    clear hL B0
    by_cases hlt : i ≤ m1
    · have i1 : (i : Int) ≤ (m1 : Int) := by omega
      obtain ⟨⟨r, hr, hc, hf⟩, _⟩ := LL.out
      have XN := Lib.hid (xnext_c W.heap.size r hr wr hc hf)
      clear hr hc hf
      go_wp2_with fail
      refine XN.out.mono ?_
      rintro e w2 ⟨r2, hr2, rfl, hc2, hf2, hg2⟩
      have L2 := Lib.hid (show Brk W g o a b d d1 w2 from ⟨⟨r2, hr2, hc2, hf2⟩, LL.out.2.1, holds_grown LL.out.2.2.1 hg2 (fun e => NE.out (by injection e)), grown_new LL.out.2.2.2.1 hg2 (Nat.le_refl _), Nat.lt_of_lt_of_le LL.out.2.2.2.2 hg2.size⟩)
      have hx := and64 (a := r2) (b := Q) hr2 (by have := AA.out; omega)
      obtain ⟨x, hxe⟩ : ∃ x, x = r2 &&& Q := ⟨_, rfl⟩
      have hxq : x ≤ Q := by rw [hxe]; exact Nat.and_le_right
      rw [← hxe] at hx
      have wx : IntKind.i64.wrap (x : Int) = (x : Int) := IntWalk.i64_in _ (by have := AA.out; omega)
      have XQ := Lib.hid hxq
      have HH := Lib.hid L2.out.2.2.1
      have D1 := Lib.hid (show d1.size = n by rw [L2.out.2.1.1, HN.out])
      clear hc2 hf2 hg2 hr2 hxe hxq XN LL
      have j1 : (i : Int) < (n : Int) := by have := AA.out; omega
      have I1 := Lib.hid (show i < n ∧ a ≤ i ∧ i < b by have := AA.out; omega)
      by_cases hxl : x < l
      · have x1 : ¬ (l : Int) ≤ (x : Int) := by omega
        obtain ⟨y, hy⟩ : ∃ y, y = a + x := ⟨_, rfl⟩
        have wy : IntKind.i64.wrap ((a : Int) + (x : Int)) = (y : Int) := by rw [show (a : Int) + (x : Int) = (y : Int) by omega]; exact IntWalk.i64_in _ (by have := AA.out; omega)
        have Y1 := Lib.hid (show y < n ∧ a ≤ y ∧ y < b by have := AA.out; omega)
        clear hy hxl
        have k1 : (y : Int) < (n : Int) := by have := Y1.out; omega
        obtain ⟨u, hu⟩ : ∃ u, d1[i]! = u := ⟨_, rfl⟩
        obtain ⟨v, hv⟩ : ∃ v, d1[y]! = v := ⟨_, rfl⟩
        obtain ⟨z, c1, f1, c2, f2, c3, f3, c4, f4, sw1, sw2⟩ := (Lay.start HH.out).pair (i := i) (j := y) (by rw [D1.out]; exact I1.out.1) (by rw [D1.out]; exact Y1.out.1) hu hv
        have c5 : (w2.setCell ⟨g, o + i, none⟩ (.int .u16 (v : Int))).cell? ⟨g, o + y, none⟩ = some (.int .u16 (z : Int)) := c3 0
        have f5 : (w2.setCell ⟨g, o + i, none⟩ (.int .u16 (v : Int))).frozen? ⟨g, o + y, none⟩ = false := f3 0
        have S1 := Lib.hid sw1
        have S2 := Lib.hid sw2
        clear hu hv sw1 sw2
        go_wp2
        go_region
        all_goals
          clear c1 c2 c3 c4 c5 f1 f2 f3 f4 f5
          go_wp2
          go_roundw
          case rel => exact ⟨i + 1, _, by go_num, by omega, by omega, L2.out.swp NE.out (by rw [HN.out]; exact AA.out.2.2.2.1) I1.out.2.1 I1.out.2.2 Y1.out.2.1 Y1.out.2.2 (by first | exact S2.out | exact S1.out _)⟩
          case measure => simp [intOf] <;> omega
      · have x1 : (l : Int) ≤ (x : Int) := by omega
        obtain ⟨x2, hx2⟩ : ∃ x2, x2 = x - l := ⟨_, rfl⟩
        have wx2 : IntKind.i64.wrap ((x : Int) - (l : Int)) = (x2 : Int) := by rw [show (x : Int) - (l : Int) = (x2 : Int) by omega]; exact IntWalk.i64_in _ (by have := AA.out; have := XQ.out; omega)
        obtain ⟨y, hy⟩ : ∃ y, y = a + x2 := ⟨_, rfl⟩
        have wy : IntKind.i64.wrap ((a : Int) + (x2 : Int)) = (y : Int) := by rw [show (a : Int) + (x2 : Int) = (y : Int) by omega]; exact IntWalk.i64_in _ (by have := AA.out; have := XQ.out; omega)
        have Y1 := Lib.hid (show y < n ∧ a ≤ y ∧ y < b by have := AA.out; have := XQ.out; omega)
        clear hx2
        clear hy hxl
        have k1 : (y : Int) < (n : Int) := by have := Y1.out; omega
        obtain ⟨u, hu⟩ : ∃ u, d1[i]! = u := ⟨_, rfl⟩
        obtain ⟨v, hv⟩ : ∃ v, d1[y]! = v := ⟨_, rfl⟩
        obtain ⟨z, c1, f1, c2, f2, c3, f3, c4, f4, sw1, sw2⟩ := (Lay.start HH.out).pair (i := i) (j := y) (by rw [D1.out]; exact I1.out.1) (by rw [D1.out]; exact Y1.out.1) hu hv
        have c5 : (w2.setCell ⟨g, o + i, none⟩ (.int .u16 (v : Int))).cell? ⟨g, o + y, none⟩ = some (.int .u16 (z : Int)) := c3 0
        have f5 : (w2.setCell ⟨g, o + i, none⟩ (.int .u16 (v : Int))).frozen? ⟨g, o + y, none⟩ = false := f3 0
        have S1 := Lib.hid sw1
        have S2 := Lib.hid sw2
        clear hu hv sw1 sw2
        go_wp2
        go_region
        all_goals
          clear c1 c2 c3 c4 c5 f1 f2 f3 f4 f5
          go_wp2
          go_roundw
          case rel => exact ⟨i + 1, _, by go_num, by omega, by omega, L2.out.swp NE.out (by rw [HN.out]; exact AA.out.2.2.2.1) I1.out.2.1 I1.out.2.2 Y1.out.2.1 Y1.out.2.2 (by first | exact S2.out | exact S1.out _)⟩
          case measure => simp [intOf] <;> omega
    · have i1 : ¬ (i : Int) ≤ (m1 : Int) := by omega
      clear hlt
      go_wp2
      first | go_end0 | refine bodyPost_ret (results_none rfl _ _ _) rfl ?_
      exact ⟨rfl, d1, LL.out.2.1, LL.out.2.1.1, LL.out.2.2.1, LL.out.2.2.2.1⟩
end Go.Proofs.Yteggbepibfpjcaa.Qs
