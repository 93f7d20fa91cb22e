/-
  slices.Sort at []uint16: partitionEqualOrdered.
-/
import Derived.Test.YteggbepibfpjcaaQsC
import Derived.Sort.LotC
import Derived.Deep.CutBlock
namespace Go.Proofs.Yteggbepibfpjcaa.Qs
set_option linter.unusedVariables false
set_option linter.unusedSimpArgs false
open Go.RowKit Mem Qr Go.Sort

theorem up_go {p : Nat → Bool} {d : Array Nat} {j i : Nat} (h : i ≤ j) (hp : p d[i]! = true) : scanUp p d j i = scanUp p d j (i + 1) := by rw [scanUp, if_pos (by simp [h, hp])]
theorem up_far {p : Nat → Bool} {d : Array Nat} {j i : Nat} (h : ¬ i ≤ j) : scanUp p d j i = i := by rw [scanUp, if_neg (by simp; omega)]
theorem up_no {p : Nat → Bool} {d : Array Nat} {j i : Nat} (hp : p d[i]! = false) : scanUp p d j i = i := by rw [scanUp, if_neg (by simp [hp])]
theorem down_go {p : Nat → Bool} {d : Array Nat} {j i m : Nat} (h : i ≤ j) (hm : j = m + 1) (hp : p d[j]! = true) : scanDown p d i j = scanDown p d i m := by subst hm; rw [scanDown, if_pos (by simp [h, hp])]
theorem down_far {p : Nat → Bool} {d : Array Nat} {j i : Nat} (h : ¬ i ≤ j) : scanDown p d i j = j := by
  cases j with
  | zero => rfl
  | succ j => rw [scanDown, if_neg (by simp; omega)]
theorem down_no {p : Nat → Bool} {d : Array Nat} {j i : Nat} (hp : p d[j]! = false) : scanDown p d i j = j := by
  cases j with
  | zero => rfl
  | succ j => rw [scanDown, if_neg (by simp [hp])]
set_option maxRecDepth 100000 in
set_option maxHeartbeats 16000000 in
theorem partEq_c (g o n ca a b pv : Nat) (d : Array Nat) (W : World) (hH : Holds w16 W g o d) (hn : d.size = n) (hbig : n ≤ 70368744177664) (hap : a ≤ pv) (hpb : pv < b) (hb : b ≤ n) (mid : Nat) (d' : Array Nat) (hR : partitionEqual ltN d a b pv = (mid, d')) :
    Calls Try.prog 54 #[.slice (some ⟨g, o, none⟩) n ca, .int .i64 a, .int .i64 b, .int .i64 pv] W (fun e W' => e = .returned (.int .i64 mid) ∧ Lay W g o d d' W') := by
  have L0 := Lib.hid (Lay.start hH)
  have HN := Lib.hid hn
  obtain ⟨a1, ha1⟩ : ∃ a1, a1 = a + 1 := ⟨_, rfl⟩
  obtain ⟨b1, hb1⟩ : ∃ b1, b1 = b - 1 := ⟨_, rfl⟩
  have HR := Lib.hid (show (mid, d') = partEqLoop ltN a a1 b1 (Sort.swp d a pv) by rw [ha1, hb1]; exact hR.symm)
  have wa : IntKind.i64.wrap ((a : Int) + 1) = (a1 : Int) := by rw [show (a : Int) + 1 = (a1 : Int) by omega]; exact IntWalk.i64_in _ (by omega)
  have wb : IntKind.i64.wrap ((b : Int) - 1) = (b1 : Int) := by rw [show (b : Int) - 1 = (b1 : Int) by omega]; exact IntWalk.i64_in _ (by omega)
  have i1 : (a : Int) < (n : Int) := by omega
  have i2 : (pv : Int) < (n : Int) := by omega
  obtain ⟨x, hx⟩ : ∃ x, d[a]! = x := ⟨_, rfl⟩
  obtain ⟨y, hy⟩ : ∃ y, d[pv]! = y := ⟨_, rfl⟩
  obtain ⟨z, c1, f1, c2, f2, c3, f3, c4, f4, sw1, sw2⟩ := L0.out.pair (i := a) (j := pv) (by omega) (by omega) hx hy
  have c5 : (W.setCell ⟨g, o + a, none⟩ (.int .u16 (y : Int))).cell? ⟨g, o + pv, none⟩ = some (.int .u16 (z : Int)) := c3 0
  have f5 : (W.setCell ⟨g, o + a, none⟩ (.int .u16 (y : Int))).frozen? ⟨g, o + pv, none⟩ = false := f3 0
  have S1 := Lib.hid sw1
  have S2 := Lib.hid sw2
  have AB := Lib.hid (show a < a1 ∧ a1 ≤ b1 + 1 ∧ b1 < n by omega)
  clear hH hn hx hy sw1 sw2 hap hpb hb ha1 hb1 hR
  go_enter Try.func54, Try.ntmps54
  go_wp2
  go_region
  all_goals
    clear c1 c2 c3 c4 c5 f1 f2 f3 f4 f5 i2
    go_wp2
    go_loopw [9, 10] (fun i_ j_ V => ∃ (i j : Nat) (d1 : Array Nat), i_ = .int .i64 i ∧ j_ = .int .i64 j ∧ a < i ∧ i ≤ n ∧ j < n ∧ (mid, d') = partEqLoop ltN a i j d1 ∧ Lay W g o d d1 V) (fun i_ j_ _ => n - (intOf i_).toNat)
    case atStart => exact ⟨a1, b1, _, rfl, rfl, AB.out.1, by have := AB.out; omega, AB.out.2.2, HR.out, by first | exact S2.out | exact S1.out _⟩
    case round =>
      obtain ⟨i, j, d1, rfl, rfl, hai, hin, hjn, hr, hL⟩ := hrel
      have RR := Lib.hid hr
      have LL := Lib.hid hL
      have D1 := Lib.hid (hL.size.trans HN.out)
      clear hr hL S1 S2 wa wb
      obtain ⟨i2, hi2⟩ : ∃ i2, i2 = scanUp (fun x => !ltN d1[a]! x) d1 j i := ⟨_, rfl⟩
      obtain ⟨j2, hj2⟩ : ∃ j2, j2 = scanDown (fun x => ltN d1[a]! x) d1 i2 j := ⟨_, rfl⟩
      have RE := Lib.hid (show (mid, d') = if i2 > j2 then (i2, d1) else partEqLoop ltN a (i2 + 1) (j2 - 1) (Sort.swp d1 i2 j2) by
        rw [RR.out, partEqLoop_eq, ← hi2, ← hj2])
      have G1 := Lib.hid (show i ≤ i2 from by rw [hi2]; exact scanUp_ge _ _ _ _)
      have G2 := Lib.hid (show j2 ≤ j from by rw [hj2]; exact scanDown_le _ _ _ _)
      have HI := Lib.hid hi2
      have HJ := Lib.hid hj2
      obtain ⟨x, hx⟩ : ∃ x, d1[a]! = x := ⟨_, rfl⟩
      rw [hx] at HI HJ
      have X := Lib.hid hx
      clear hi2 hj2 hx RR
      have AN := Lib.hid (show a < n by omega)
      go_upto_block 2 with fail
      go_cut [9] (fun v wx => v = .int .i64 i2 ∧ i2 ≤ n ∧ Lay W g o d d1 wx)
      case first =>
        go_wp2_with fail
        go_loopw [9] (fun i_ V => ∃ k : Nat, i_ = .int .i64 k ∧ a < k ∧ k ≤ n ∧ i2 = scanUp (fun y => !ltN x y) d1 j k ∧ Lay W g o d d1 V) (fun i_ _ => n - (intOf i_).toNat)
        case atStart => exact ⟨i, rfl, hai, hin, HI.out, LL.out⟩
        case round =>
          obtain ⟨k, rfl, hak, hkn, hk, hL⟩ := hrel
          have L1 := Lib.hid hL
          have K1 := Lib.hid hk
          clear hL hk LL HI
          have c0 := (L1.out.at_ (j := a) (by rw [D1.out]; omega)).1
          rw [X.out] at c0
          unfold w16 at c0
          by_cases hkj : k ≤ j
          · have i3 : (k : Int) ≤ (j : Int) := by omega
            have i3b : decide ((k : Int) ≤ (j : Int)) = true := decide_eq_true i3
            have i4 : (k : Int) < (n : Int) := by omega
            have c1 := (L1.out.at_ (j := k) (by rw [D1.out]; omega)).1
            obtain ⟨y, hy⟩ : ∃ y, d1[k]! = y := ⟨_, rfl⟩
            rw [hy] at c1
            unfold w16 at c1
            obtain ⟨t, ht⟩ : ∃ t, ltN x y = t := ⟨_, rfl⟩
            have HB := Lib.hid (show decide (x < y) = t from ht)
            cases t with
            | false =>
              have KN := Lib.hid (K1.out.trans (up_go hkj (by rw [hy, ht]; rfl)))
              clear ht hy K1
              go_upto_region 3 with fail
              go_quiet ((go_at_call 53; exact Calls.quiet_of_same (less_c x y _ false HB.out)))
              go_wp2
              go_roundw
              case rel => exact ⟨k + 1, by go_num, by omega, by omega, KN.out, by first | exact L1.out | exact L1.out.drewN _⟩
              case measure => simp [intOf] <;> omega
            | true =>
              have KN := Lib.hid (K1.out.trans (up_no (by rw [hy, ht]; rfl)))
              clear ht hy K1
              go_upto_region 3 with fail
              go_quiet ((go_at_call 53; exact Calls.quiet_of_same (less_c x y _ true HB.out)))
              go_wp2
              go_meet
              exact ⟨by rw [KN.out], by rw [KN.out]; exact hkn, by first | exact L1.out | exact L1.out.drewN _⟩
          · have i3 : ¬ (k : Int) ≤ (j : Int) := by omega
            have i3b : decide ((k : Int) ≤ (j : Int)) = false := decide_eq_false i3
            have KN := Lib.hid (K1.out.trans (up_far hkj))
            clear K1
            go_upto_region 3 with fail
            go_quiet (fail)
            go_wp2
            go_meet
            exact ⟨by rw [KN.out], by rw [KN.out]; exact hkn, by first | exact L1.out | exact L1.out.drewN _⟩
      case rest =>
        obtain ⟨rfl, h2n, hL⟩ := hcut
        have L2 := Lib.hid hL
        obtain ⟨V, hV⟩ : ∃ V : World, V = wc := ⟨_, rfl⟩
        rw [← hV] at L2 ⊢
        clear hL hV LL HI
        go_upto_block 4 with fail
        go_cut [10] (fun v wx => v = .int .i64 j2 ∧ Lay W g o d d1 wx)
        case first =>
          go_wp2_with fail
          go_loopw [10] (fun i_ V => ∃ k : Nat, i_ = .int .i64 k ∧ k ≤ j ∧ j2 = scanDown (fun y => ltN x y) d1 i2 k ∧ Lay W g o d d1 V) (fun i_ _ => (intOf i_).toNat)
          case atStart => exact ⟨j, rfl, Nat.le_refl _, HJ.out, L2.out⟩
          case round =>
            obtain ⟨k, rfl, hkj, hk, hL⟩ := hrel
            have L3 := Lib.hid hL
            have K1 := Lib.hid hk
            clear hL hk L2 HJ
            have c0 := (L3.out.at_ (j := a) (by rw [D1.out]; omega)).1
            rw [X.out] at c0
            unfold w16 at c0
            by_cases hik : i2 ≤ k
            · have i3 : (i2 : Int) ≤ (k : Int) := by omega
              have i3b : decide ((i2 : Int) ≤ (k : Int)) = true := decide_eq_true i3
              have i4 : (k : Int) < (n : Int) := by omega
              have c1 := (L3.out.at_ (j := k) (by rw [D1.out]; omega)).1
              obtain ⟨y, hy⟩ : ∃ y, d1[k]! = y := ⟨_, rfl⟩
              rw [hy] at c1
              unfold w16 at c1
              obtain ⟨t, ht⟩ : ∃ t, ltN x y = t := ⟨_, rfl⟩
              have HB := Lib.hid (show decide (x < y) = t from ht)
              cases t with
              | true =>
                obtain ⟨m, hm⟩ : ∃ m, k = m + 1 := ⟨k - 1, by have := G1.out; omega⟩
                have wm : IntKind.i64.wrap ((k : Int) - 1) = (m : Int) := by rw [show (k : Int) - 1 = (m : Int) by omega]; exact IntWalk.i64_in _ (by omega)
                have KN := Lib.hid (K1.out.trans (down_go hik hm (by rw [hy, ht])))
                have KM := Lib.hid hm
                clear ht hy K1 hm
                go_upto_region 5 with fail
                go_quiet ((go_at_call 53; exact Calls.quiet_of_same (less_c x y _ true HB.out)))
                go_wp2
                go_roundw
                case rel => exact ⟨m, by go_num, by have := KM.out; omega, KN.out, by first | exact L3.out | exact L3.out.drewN _⟩
                case measure => have := KM.out; simp [intOf] <;> omega
              | false =>
                have KN := Lib.hid (K1.out.trans (down_no (by rw [hy, ht])))
                clear ht hy K1
                go_upto_region 5 with fail
                go_quiet ((go_at_call 53; exact Calls.quiet_of_same (less_c x y _ false HB.out)))
                go_wp2
                go_meet
                exact ⟨by rw [KN.out], by first | exact L3.out | exact L3.out.drewN _⟩
            · have i3 : ¬ (i2 : Int) ≤ (k : Int) := by omega
              have i3b : decide ((i2 : Int) ≤ (k : Int)) = false := decide_eq_false i3
              have KN := Lib.hid (K1.out.trans (down_far hik))
              clear K1
              go_upto_region 5 with fail
              go_quiet (fail)
              go_wp2
              go_meet
              exact ⟨by rw [KN.out], by first | exact L3.out | exact L3.out.drewN _⟩
        case rest =>
          obtain ⟨rfl, hL⟩ := hcut
          have L3 := Lib.hid hL
          obtain ⟨V2, hV⟩ : ∃ V : World, V = wc := ⟨_, rfl⟩
          rw [← hV] at L3 ⊢
          clear hL hV L2 HJ
          by_cases hgt : i2 > j2
          · have i3 : (j2 : Int) < (i2 : Int) := by omega
            have hE := RE.out
            rw [if_pos hgt] at hE
            injection hE with e1 e2
            subst e1 e2
            clear RE hgt
            go_wp2
            go_ret
            exact ⟨rfl, L3.out⟩
          · have i3 : ¬ (j2 : Int) < (i2 : Int) := by omega
            have hE := RE.out
            rw [if_neg hgt] at hE
            obtain ⟨j3, hj3⟩ : ∃ j3, j3 = j2 - 1 := ⟨_, rfl⟩
            rw [← hj3] at hE
            have wj : IntKind.i64.wrap ((j2 : Int) - 1) = (j3 : Int) := by rw [show (j2 : Int) - 1 = (j3 : Int) by have := G1.out; omega]; exact IntWalk.i64_in _ (by have := G2.out; omega)
            have RN := Lib.hid hE
            have i4 : (i2 : Int) < (n : Int) := by have := G2.out; omega
            have i5 : (j2 : Int) < (n : Int) := by have := G2.out; omega
            obtain ⟨u, hu⟩ : ∃ u, d1[i2]! = u := ⟨_, rfl⟩
            obtain ⟨v, hv⟩ : ∃ v, d1[j2]! = v := ⟨_, rfl⟩
            obtain ⟨z2, c1, f1, c2, f2, c3, f3, c4, f4, sw1, sw2⟩ := L3.out.pair (i := i2) (j := j2) (by rw [D1.out]; omega) (by rw [D1.out]; omega) hu hv
            have c5 : (V2.setCell ⟨g, o + i2, none⟩ (.int .u16 (v : Int))).cell? ⟨g, o + j2, none⟩ = some (.int .u16 (z2 : Int)) := c3 0
            have f5 : (V2.setCell ⟨g, o + i2, none⟩ (.int .u16 (v : Int))).frozen? ⟨g, o + j2, none⟩ = false := f3 0
            have S3 := Lib.hid sw1
            have S4 := Lib.hid sw2
            have GG := Lib.hid (show i ≤ i2 ∧ j2 ≤ j ∧ 1 ≤ j2 ∧ j3 ≤ j2 ∧ i2 < n by have := G1.out; have := G2.out; omega)
            clear hE RE hu hv sw1 sw2 hgt hj3
            go_wp2
            go_region
            all_goals
              clear c1 c2 c3 c4 c5 f1 f2 f3 f4 f5
              go_wp2
              go_roundw
              case rel => exact ⟨i2 + 1, j3, _, by go_num, by first | rfl | go_num, by have := GG.out; omega, by have := GG.out; omega, by have := GG.out; omega, RN.out, by first | exact S4.out | exact S3.out _⟩
              case measure => have := GG.out; simp [intOf] <;> omega
end Go.Proofs.Yteggbepibfpjcaa.Qs
