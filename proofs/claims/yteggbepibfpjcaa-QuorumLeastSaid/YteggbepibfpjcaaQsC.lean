/-
  slices.Sort at []uint16: heapSortOrdered.
-/
import Derived.Test.YteggbepibfpjcaaQsB
namespace Go.Proofs.Yteggbepibfpjcaa.Qs
set_option linter.unusedVariables false
set_option linter.unusedSimpArgs false
open Go.RowKit Mem Qr Go.Sort

set_option maxRecDepth 100000 in
set_option maxHeartbeats 16000000 in
theorem heap_c (g o n ca a b : Nat) (d : Array Nat) (W : World) (hH : Holds w16 W g o d) (hn : d.size = n) (hbig : n ≤ 70368744177664) (hab : a ≤ b) (hb : b ≤ n) :
    Calls Try.prog 48 #[.slice (some ⟨g, o, none⟩) n ca, .int .i64 a, .int .i64 b] W (fun e W' => e = .returned (.tuple #[]) ∧ Lay W g o d (heapSort ltN d a b) W') := by
  obtain ⟨r, hr⟩ : ∃ r, r = heapSort ltN d a b := ⟨_, rfl⟩
  rw [← hr]
  obtain ⟨h, hh⟩ : ∃ h, h = b - a := ⟨_, rfl⟩
  obtain ⟨t, ht⟩ : ∃ t, t = (h - 1) / 2 := ⟨_, rfl⟩
  have HR := Lib.hid (show r = heapPop ltN a h (heapBuild ltN h a (t + 1) d) by rw [hr, ht, hh]; rfl)
  have L0 := Lib.hid (Lay.start hH)
  have HN := Lib.hid hn
  have AH := Lib.hid (show a + h ≤ n by omega)
  have TH := Lib.hid (show t ≤ h by omega)
  have wh : IntKind.i64.wrap ((b : Int) - (a : Int)) = (h : Int) := by rw [show (b : Int) - (a : Int) = (h : Int) by omega]; exact IntWalk.i64_in _ (by omega)
  have wh1 : IntKind.i64.wrap ((h : Int) - 1) = (h : Int) - 1 := IntWalk.i64_in _ (by omega)
  have wt : Int.tdiv ((h : Int) - 1) 2 = (t : Int) := by
    rcases Nat.eq_zero_or_pos h with e | e
    · subst e; rw [ht]; rfl
    · obtain ⟨h', rfl⟩ : ∃ h', h = h' + 1 := ⟨h - 1, by omega⟩
      rw [show ((h' + 1 : Nat) : Int) - 1 = (h' : Int) by omega, Int.tdiv_eq_ediv_of_nonneg (by omega), ht]
      omega
  have wt1 : IntKind.i64.wrap (t : Int) = (t : Int) := IntWalk.i64_in _ (by omega)
  clear hH hn hr hh ht
  go_enter Try.func48, Try.ntmps48
  go_wp2
  go_loopw [9] (fun i_ V => ∃ (k : Nat) (d1 : Array Nat), i_ = .int .i64 ((k : Int) - 1) ∧ k ≤ t + 1 ∧ r = heapPop ltN a h (heapBuild ltN h a k d1) ∧ Lay W g o d d1 V) (fun i_ _ => (intOf i_ + 1).toNat)
  case atStart => exact ⟨t + 1, d, by go_num, Nat.le_refl _, HR.out, L0.out⟩
  case round =>
    obtain ⟨k, d1, rfl, hk, hr, hL⟩ := hrel
    have RR := Lib.hid hr
    have LL := Lib.hid hL
    have D1 := Lib.hid (hL.size.trans HN.out)
    clear hr hL L0 HR wt wt1 wh
    cases k with
    | succ m =>
      have em : ((m + 1 : Nat) : Int) - 1 = (m : Int) := by omega
      rw [em]
      have i1 : (0 : Int) ≤ (m : Int) := by omega
      have MB := Lib.hid (show m ≤ t by omega)
      have wm : IntKind.i64.wrap ((m : Int) - 1) = (m : Int) - 1 := IntWalk.i64_in _ (by have := TH.out; have := AH.out; omega)
      clear em hk wh1
      go_wp2_with fail
      refine (sift_c g o n ca m h a d1 _ LL.out.holds D1.out hbig (by have := MB.out; have := TH.out; have := AH.out; omega) AH.out).mono ?_
      rintro e w2 ⟨rfl, hL2⟩
      have L2 := Lib.hid (LL.out.trans hL2)
      clear hL2
      go_wp2
      go_roundw
      case rel => exact ⟨m, _, by go_num, by have := MB.out; omega, RR.out, L2.out⟩
      case measure => simp [intOf] <;> omega
    | zero =>
      have em : ((0 : Nat) : Int) - 1 = -1 := by omega
      rw [em]
      have RP := Lib.hid (show r = heapPop ltN a h d1 from RR.out)
      clear em hk RR
      go_wp2
      go_loopw [10] (fun i_ V => ∃ (k : Nat) (d2 : Array Nat), i_ = .int .i64 ((k : Int) - 1) ∧ k ≤ h ∧ r = heapPop ltN a k d2 ∧ Lay W g o d d2 V) (fun i_ _ => (intOf i_ + 1).toNat)
      case atStart => exact ⟨h, d1, by first | rfl | go_num, Nat.le_refl _, RP.out, LL.out⟩
      case round =>
        obtain ⟨k, d2, rfl, hk, hr, hL⟩ := hrel
        have RR := Lib.hid hr
        have L2 := Lib.hid hL
        have D2 := Lib.hid (hL.size.trans HN.out)
        clear hr hL RP LL wh1
        cases k with
        | succ m =>
          have em : ((m + 1 : Nat) : Int) - 1 = (m : Int) := by omega
          rw [em]
          have i1 : (0 : Int) ≤ (m : Int) := by omega
          obtain ⟨p, hp⟩ : ∃ p, p = a + m := ⟨_, rfl⟩
          have pn : p < n := by have := AH.out; omega
          have an : a < n := by have := AH.out; omega
          have wp : IntKind.i64.wrap ((a : Int) + (m : Int)) = (p : Int) := by rw [show (a : Int) + (m : Int) = (p : Int) by omega]; exact IntWalk.i64_in _ (by omega)
          have i2 : (p : Int) < (n : Int) := by omega
          have i3 : (a : Int) < (n : Int) := by omega
          obtain ⟨x, hx⟩ : ∃ x, d2[a]! = x := ⟨_, rfl⟩
          obtain ⟨y, hy⟩ : ∃ y, d2[p]! = y := ⟨_, rfl⟩
          obtain ⟨z, c1, f1, c2, f2, c3, f3, c4, f4, sw1, sw2⟩ := L2.out.pair (i := a) (j := p) (by rw [D2.out]; omega) (by rw [D2.out]; omega) hx hy
          have S1 := Lib.hid sw1
          have S2 := Lib.hid sw2
          have RN := Lib.hid (show r = heapPop ltN a m (siftDown ltN m a 0 (Sort.swp d2 a p)) by rw [RR.out, hp]; rfl)
          have MB := Lib.hid (show m ≤ h by omega)
          have wm : IntKind.i64.wrap ((m : Int) - 1) = (m : Int) - 1 := IntWalk.i64_in _ (by omega)
          have c5 : (wr.setCell ⟨g, o + a, none⟩ (.int .u16 (y : Int))).cell? ⟨g, o + p, none⟩ = some (.int .u16 (z : Int)) := c3 0
          have f5 : (wr.setCell ⟨g, o + a, none⟩ (.int .u16 (y : Int))).frozen? ⟨g, o + p, none⟩ = false := f3 0
          clear em hk hx hy sw1 sw2 hp RR
          go_wp2
          go_region
          all_goals
            clear c1 c2 c3 c4 c5 f1 f2 f3 f4 f5
            go_wp2_with fail
            refine (sift_c g o n ca 0 m a (Sort.swp d2 a p) _ (Lay.holds (W := W) (d0 := d) (by first | exact S2.out | exact S1.out _)) (by rw [size_swp]; exact D2.out) hbig (Nat.zero_le _) (by have := MB.out; have := AH.out; omega)).mono ?_
            rintro e w2 ⟨rfl, hL2⟩
            have L3 := Lib.hid (Lay.trans (W := W) (d0 := d) (by first | exact S2.out | exact S1.out _) hL2)
            clear hL2
            go_wp2
            go_roundw
            case rel => exact ⟨m, _, by go_num, by have := MB.out; omega, RN.out, L3.out⟩
            case measure => simp [intOf] <;> omega
        | zero =>
          have em : ((0 : Nat) : Int) - 1 = -1 := by omega
          rw [em]
          have RE := Lib.hid (show r = d2 from RR.out)
          clear em hk RR
          go_wp2
          first | go_end0 | refine bodyPost_ret (results_none rfl _ _ _) rfl ?_
          exact ⟨rfl, by rw [RE.out]; exact L2.out⟩
end Go.Proofs.Yteggbepibfpjcaa.Qs
