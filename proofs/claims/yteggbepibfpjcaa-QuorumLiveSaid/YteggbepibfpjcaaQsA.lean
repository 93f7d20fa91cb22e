/-
  slices.Sort at []uint16, begun: cmp.Less, the row that is sorted in place, insertionSortOrdered. The pure functions are the kit's (Go.Sort).
-/
import Derived.Test.YteggbepibfpjcaaQrMem
import Derived.Sort.Row
import Derived.Sort.LotD3
import Derived.Deep.QuietTactic
import Derived.BigQuiet
import Derived.Deep.RegionHeld3
import Derived.Deep.DeepCutAuto
namespace Go.Proofs.Yteggbepibfpjcaa.Qs
set_option linter.unusedVariables false
set_option linter.unusedSimpArgs false
open Go.RowKit Mem Qr Go.Sort

theorem isNaN_c (x : Nat) (W : World) : Calls Try.prog 63 #[.int .u16 x] W (fun e W' => e = .returned (.bool false) ∧ W' = W) := by
  have q1 : ((x : Int) != (x : Int)) = false := by simp
  go_enter Try.func63, Try.ntmps63
  go_wp2
  go_ret
  exact ⟨by simp, rfl⟩
theorem less_c (x y : Nat) (W : World) (b : Bool) (hb : decide (x < y) = b) : Calls Try.prog 53 #[.int .u16 x, .int .u16 y] W (fun e W' => e = .returned (.bool b) ∧ W' = W) := by
  cases b with
  | true =>
    have h : x < y := of_decide_eq_true hb
    have i1 : (x : Int) < (y : Int) := by omega
    have q1 : decide ((x : Int) < (y : Int)) = true := decide_eq_true i1
    clear h
    go_enter Try.func53, Try.ntmps53
    go_wp2_with (go_at_call 63; refine (isNaN_c _ _).mono ?_; rintro e w' ⟨rfl, rfl⟩)
    go_ret
    exact ⟨rfl, rfl⟩
  | false =>
    have h : ¬ x < y := of_decide_eq_false hb
    have i1 : ¬ (x : Int) < (y : Int) := by omega
    have q1 : decide ((x : Int) < (y : Int)) = false := decide_eq_false i1
    clear h
    go_enter Try.func53, Try.ntmps53
    go_wp2_with (go_at_call 63; refine (isNaN_c _ _).mono ?_; rintro e w' ⟨rfl, rfl⟩)
    go_ret
    exact ⟨rfl, rfl⟩

def ltN (x y : Nat) : Bool := decide (x < y)
/-- The world W with the row at (g, o) holding d instead of d0, some orders drawn. -/
def Lay (W : World) (g o : Nat) (d0 d : Array Nat) (V : World) : Prop := Holds w16 W g o d0 ∧ d.size = d0.size ∧ ∃ q, V = putRow w16 (Go.Sort.ahead W q) g o d
section
variable {W V : World} {g o : Nat} {d0 d : Array Nat}
theorem Lay.start (h : Holds w16 W g o d) : Lay W g o d d W := ⟨h, rfl, 0, (putRow_self w16 W g o d h).symm⟩
theorem Lay.drew (h : Lay W g o d0 d V) : Lay W g o d0 d V.drew := by
  obtain ⟨h0, hs, q, rfl⟩ := h
  exact ⟨h0, hs, q + 1, rfl⟩
theorem Lay.drewN (h : Lay W g o d0 d V) (n : Nat) : Lay W g o d0 d (V.drewN n) := by
  obtain ⟨h0, hs, q, rfl⟩ := h
  exact ⟨h0, hs, q + n, by rw [← ahead_ahead]; rfl⟩
theorem Lay.at_ (h : Lay W g o d0 d V) {j : Nat} (hj : j < d.size) : V.cell? ⟨g, o + j, none⟩ = some (w16 d[j]!) ∧ V.frozen? ⟨g, o + j, none⟩ = false := by
  obtain ⟨h0, hs, q, rfl⟩ := h
  exact holds_putRow w16 (Go.Sort.ahead W q) g o d0 d (holds_ahead w16 W q g o d0 h0) hs j hj
theorem Lay.holds (h : Lay W g o d0 d V) : Holds w16 V g o d := fun j hj => h.at_ hj
theorem Lay.swp (h : Lay W g o d0 d V) {i j : Nat} (hi : i < d.size) (hj : j < d.size) :
    Lay W g o d0 (swp d i j) ((V.setCell ⟨g, o + i, none⟩ (w16 d[j]!)).setCell ⟨g, o + j, none⟩ (w16 d[i]!)) := by
  obtain ⟨h0, hs, q, rfl⟩ := h
  exact ⟨h0, by rw [size_swp]; exact hs, q, putRow_swp w16 (Go.Sort.ahead W q) g o d i j hi hj⟩
theorem Lay.put (h : Lay W g o d0 d V) {i : Nat} (hi : i < d.size) (x : Nat) : Lay W g o d0 (d.setIfInBounds i x) (V.setCell ⟨g, o + i, none⟩ (w16 x)) := by
  obtain ⟨h0, hs, q, rfl⟩ := h
  exact ⟨h0, by rw [Array.size_setIfInBounds]; exact hs, q, putRow_set w16 (Go.Sort.ahead W q) g o d i x hi⟩
/-- Behind one store another place reads as before. -/
theorem Lay.beside (h : Lay W g o d0 d V) {i j : Nat} (hi : i < d.size) (hj : j < d.size) (hne : j ≠ i) (x : Nat) :
    (V.setCell ⟨g, o + i, none⟩ (w16 x)).cell? ⟨g, o + j, none⟩ = some (w16 d[j]!) ∧ (V.setCell ⟨g, o + i, none⟩ (w16 x)).frozen? ⟨g, o + j, none⟩ = false := by
  have := (h.put hi x).at_ (j := j) (by rw [Array.size_setIfInBounds]; exact hj)
  rwa [getElem!_set_other d i j x hne] at this
theorem Lay.trans {d2 : Array Nat} {X : World} (h : Lay W g o d0 d V) (h2 : Lay V g o d d2 X) : Lay W g o d0 d2 X := by
  obtain ⟨h0, hs, q, rfl⟩ := h
  obtain ⟨_, hs2, q2, rfl⟩ := h2
  exact ⟨h0, hs2.trans hs, q + q2, putRow_ahead_putRow w16 W q q2 g o d d2 hs2⟩
end

theorem ltN_true {x y : Nat} (h : x < y) : ltN x y = true := decide_eq_true h
theorem ins_go {a j : Nat} {d : Array Nat} (h1 : a < j + 1) (h2 : ltN d[j + 1]! d[j]! = true) : insInner ltN a (j + 1) d = insInner ltN a j (swp d (j + 1) j) := by
  rw [insInner, if_pos (by simp [h2]; omega)]
theorem ins_low {a j : Nat} {d : Array Nat} (h1 : j ≤ a) : insInner ltN a j d = d := by
  cases j with
  | zero => rfl
  | succ j => rw [insInner, if_neg (by simp; omega)]
theorem ins_stop {a j : Nat} {d : Array Nat} (h2 : ltN d[j + 1]! d[j]! = false) : insInner ltN a (j + 1) d = d := by
  rw [insInner, if_neg (by simp [h2])]
theorem out_go {a b i : Nat} {d : Array Nat} (h : i < b) : insOuter ltN a b i d = insOuter ltN a b (i + 1) (insInner ltN a i d) := by
  rw [insOuter, if_pos h]
theorem out_end {a b i : Nat} {d : Array Nat} (h : b ≤ i) : insOuter ltN a b i d = d := by
  rw [insOuter, if_neg (by omega)]
set_option maxRecDepth 100000 in
set_option maxHeartbeats 8000000 in
theorem insertion_c (g o n ca a b : Nat) (d : Array Nat) (W : World) (hH : Holds w16 W g o d) (hn : d.size = n) (hbig : n ≤ 70368744177664) (hab : a ≤ b) (hb : b ≤ n) :
    Calls Try.prog 47 #[.slice (some ⟨g, o, none⟩) n ca, .int .i64 a, .int .i64 b] W (fun e W' => e = .returned (.tuple #[]) ∧ Lay W g o d (insertionSort ltN d a b) W') := by
  obtain ⟨r, hr⟩ : ∃ r, r = insertionSort ltN d a b := ⟨_, rfl⟩
  rw [← hr]
  have HR := Lib.hid (show r = insOuter ltN a b (a + 1) d from hr)
  have L0 := Lib.hid (Lay.start hH)
  have HN := Lib.hid hn
  have w1 : IntKind.i64.wrap ((a : Int) + 1) = ((a + 1 : Nat) : Int) := by rw [show (a : Int) + 1 = ((a + 1 : Nat) : Int) by omega]; exact IntWalk.i64_in _ (by omega)
  clear hH hn hr
  go_enter Try.func47, Try.ntmps47
  go_wp2
  go_loopw [6] (fun i_ V => ∃ (i : Nat) (d1 : Array Nat), i_ = .int .i64 i ∧ a + 1 ≤ i ∧ (i ≤ b ∨ i = a + 1) ∧ r = insOuter ltN a b i d1 ∧ Lay W g o d d1 V) (fun i_ _ => b - (intOf i_).toNat)
  case atStart => exact ⟨a + 1, d, by go_num, Nat.le_refl _, .inr rfl, HR.out, L0.out⟩
  case round =>
    obtain ⟨i, d1, rfl, hi, hib, hr, hL⟩ := hrel
    have RR := Lib.hid hr
    have LL := Lib.hid hL
    clear hr hL L0 HR w1
    by_cases hlt : i < b
    · have i1 : (i : Int) < (b : Int) := by omega
      go_wp2
      go_loopw [7] (fun j_ V => ∃ (j : Nat) (d2 : Array Nat), j_ = .int .i64 j ∧ a ≤ j ∧ j ≤ i ∧ d2.size = n ∧ r = insOuter ltN a b (i + 1) (insInner ltN a j d2) ∧ Lay W g o d d2 V) (fun j_ _ => (intOf j_).toNat)
      case atStart => exact ⟨i, d1, rfl, by omega, Nat.le_refl _, by rw [LL.out.2.1, HN.out], RR.out.trans (out_go hlt), LL.out⟩
      case round =>
        obtain ⟨j, d2, rfl, haj, hji, hs, hr, hL⟩ := hrel
        have R2 := Lib.hid hr
        have L2 := Lib.hid hL
        have D2 := Lib.hid hs
        clear hr hL hs LL RR
        by_cases hja : a < j
        · obtain ⟨m, hm⟩ : ∃ m, j = m + 1 := ⟨j - 1, by omega⟩
          have i2 : (a : Int) < (j : Int) := by omega
          have i2b : decide ((a : Int) < (j : Int)) = true := decide_eq_true i2
          have wm : IntKind.i64.wrap ((j : Int) - 1) = (m : Int) := by rw [show (j : Int) - 1 = (m : Int) by omega]; exact IntWalk.i64_in _ (by omega)
          have j1 : (j : Int) < (n : Int) := by omega
          have m1 : (m : Int) < (n : Int) := by omega
          obtain ⟨c1, f1⟩ := L2.out.at_ (j := j) (by rw [D2.out]; omega)
          obtain ⟨c2, f2⟩ := L2.out.at_ (j := m) (by rw [D2.out]; omega)
          have c3 := fun k => ((L2.out.drewN k).beside (i := j) (j := m) (by rw [D2.out]; omega) (by rw [D2.out]; omega) (by omega) d2[m]!).1
          have f3 := fun k => ((L2.out.drewN k).beside (i := j) (j := m) (by rw [D2.out]; omega) (by rw [D2.out]; omega) (by omega) d2[m]!).2
          have SW := Lib.hid (fun k => (L2.out.drewN k).swp (i := j) (j := m) (by rw [D2.out]; omega) (by rw [D2.out]; omega))
          obtain ⟨x, hx⟩ : ∃ x, x = d2[j]! := ⟨_, rfl⟩
          obtain ⟨y, hy⟩ : ∃ y, y = d2[m]! := ⟨_, rfl⟩
          simp only [← hx] at c1 SW
          simp only [← hy] at c2 c3 f3 SW
          unfold w16 at c1 c2 c3 f3 SW
          cases hb : ltN x y with
          | true =>
            have RN := Lib.hid (show r = insOuter ltN a b (i + 1) (insInner ltN a m (swp d2 j m)) by
              have e := R2.out
              rw [hm, ins_go (by omega) (by rw [← hm, ← hx, ← hy]; exact hb), ← hm] at e
              exact e)
            have HB := Lib.hid (show decide (x < y) = true from hb)
            have JM := Lib.hid hm
            clear hx hy hb hm R2
            go_upto_region 4 with fail
            go_quiet ((go_at_call 53; exact Calls.quiet_of_same (less_c x y _ true HB.out)))
            go_wp2
            go_region
            all_goals
              go_wp2
              go_roundw
              case rel => exact ⟨m, swp d2 j m, by go_num, by have := JM.out; omega, by have := JM.out; omega, by rw [size_swp]; exact D2.out, RN.out, SW.out _⟩
              case measure => have := JM.out; simp [intOf]; omega
          | false =>
            have RN := Lib.hid (show r = insOuter ltN a b (i + 1) d2 by
              have e := R2.out
              rw [hm, ins_stop (by rw [← hm, ← hx, ← hy]; exact hb)] at e
              exact e)
            have HB := Lib.hid (show decide (x < y) = false from hb)
            clear hx hy hb hm R2 SW c3 f3
            go_upto_region 4 with fail
            go_quiet ((go_at_call 53; exact Calls.quiet_of_same (less_c x y _ false HB.out)))
            go_wp2
            go_roundw
            case rel => exact ⟨i + 1, d2, by go_num, by omega, .inl (by omega), RN.out, by first | exact L2.out | exact L2.out.drewN _⟩
            case measure => simp [intOf]; omega
        · have i2 : ¬ (a : Int) < (j : Int) := by omega
          have i2b : decide ((a : Int) < (j : Int)) = false := decide_eq_false i2
          have RN := Lib.hid (show r = insOuter ltN a b (i + 1) d2 by
            have e := R2.out
            rw [ins_low (by omega)] at e
            exact e)
          clear hja R2
          go_upto_region 4 with fail
          go_quiet (fail)
          go_wp2
          go_roundw
          case rel => exact ⟨i + 1, d2, by go_num, by omega, .inl (by omega), RN.out, by first | exact L2.out | exact L2.out.drewN _⟩
          case measure => simp [intOf]; omega
    · have i1 : ¬ (i : Int) < (b : Int) := by omega
      have RE := Lib.hid (show r = d1 from RR.out.trans (out_end (by omega)))
      clear hlt
      go_wp2
      go_end0
      exact ⟨rfl, by rw [RE.out]; exact LL.out⟩
end Go.Proofs.Yteggbepibfpjcaa.Qs
