/-
  slices.Sort at []uint16: partitionOrdered.
-/
import Derived.Test.YteggbepibfpjcaaQsD
namespace Go.Proofs.Yteggbepibfpjcaa.Qs
set_option linter.unusedVariables false
set_option linter.unusedSimpArgs false
open Go.RowKit Mem Qr Go.Sort
set_option maxRecDepth 100000 in
set_option maxHeartbeats 32000000 in
theorem part_c (g o n ca a b pv : Nat) (d : Array Nat) (W : World) (hH : Holds w16 W g o d) (hn : d.size = n) (hbig : n ≤ 70368744177664) (hap : a ≤ pv) (hpb : pv < b) (hb : b ≤ n) (mid : Nat) (ap : Bool) (d' : Array Nat) (hR : partition ltN d a b pv = (mid, ap, d')) :
    Calls Try.prog 55 #[.slice (some ⟨g, o, none⟩) n ca, .int .i64 a, .int .i64 b, .int .i64 pv] W (fun e W' => e = .returned (.tuple #[.int .i64 mid, .bool ap]) ∧ Lay W g o d d' W') := by
  have L0 := Lib.hid (Lay.start hH)
  have HN := Lib.hid hn
  obtain ⟨a1, ha1⟩ : ∃ a1, a1 = a + 1 := ⟨_, rfl⟩
  obtain ⟨b1, hb1⟩ : ∃ b1, b1 = b - 1 := ⟨_, rfl⟩
  have wa : IntKind.i64.wrap ((a : Int) + 1) = (a1 : Int) := by rw [show (a : Int) + 1 = (a1 : Int) by omega]; exact IntWalk.i64_in _ (by omega)
  have wb : IntKind.i64.wrap ((b : Int) - 1) = (b1 : Int) := by rw [show (b : Int) - 1 = (b1 : Int) by omega]; exact IntWalk.i64_in _ (by omega)
  have i1 : (a : Int) < (n : Int) := by omega
  have i2 : (pv : Int) < (n : Int) := by omega
  obtain ⟨x0, hx⟩ : ∃ x, d[a]! = x := ⟨_, rfl⟩
  obtain ⟨y0, hy⟩ : ∃ y, d[pv]! = y := ⟨_, rfl⟩
  obtain ⟨z, c1, f1, c2, f2, c3, f3, c4, f4, sw1, sw2⟩ := L0.out.pair (i := a) (j := pv) (by omega) (by omega) hx hy
  have c5 : (W.setCell ⟨g, o + a, none⟩ (.int .u16 (y0 : Int))).cell? ⟨g, o + pv, none⟩ = some (.int .u16 (z : Int)) := c3 0
  have f5 : (W.setCell ⟨g, o + a, none⟩ (.int .u16 (y0 : Int))).frozen? ⟨g, o + pv, none⟩ = false := f3 0
  obtain ⟨d1, hd1⟩ : ∃ d1, d1 = Sort.swp d a pv := ⟨_, rfl⟩
  rw [← hd1] at sw2
  have S1 := Lib.hid (show ∀ k, Lay W g o d d1 _ from fun k => by rw [hd1]; exact sw1 k)
  have S2 := Lib.hid sw2
  have D1 := Lib.hid (show d1.size = n by rw [hd1, size_swp]; exact hn)
  obtain ⟨p2, hp2⟩ : ∃ p2, p2 = scanUp (fun x => ltN x d1[a]!) d1 b1 a1 := ⟨_, rfl⟩
  obtain ⟨q2, hq2⟩ : ∃ q2, q2 = scanDown (fun x => !ltN x d1[a]!) d1 p2 b1 := ⟨_, rfl⟩
  have RE := Lib.hid (show (mid, ap, d') = if p2 > q2 then (q2, true, Sort.swp d1 q2 a) else ((partLoop ltN a (p2 + 1) (q2 - 1) (Sort.swp d1 p2 q2)).1, false, Sort.swp (partLoop ltN a (p2 + 1) (q2 - 1) (Sort.swp d1 p2 q2)).2 (partLoop ltN a (p2 + 1) (q2 - 1) (Sort.swp d1 p2 q2)).1 a) by
    rw [← hR, partition]
    simp only []
    rw [← hd1, ← ha1, ← hb1, ← hp2, ← hq2])
  have G1 := Lib.hid (show a1 ≤ p2 from by rw [hp2]; exact scanUp_ge _ _ _ _)
  have G2 := Lib.hid (show q2 ≤ b1 from by rw [hq2]; exact scanDown_le _ _ _ _)
  have HI := Lib.hid hp2
  have HJ := Lib.hid hq2
  obtain ⟨x, hx1⟩ : ∃ x, d1[a]! = x := ⟨_, rfl⟩
  rw [hx1] at HI HJ
  have X := Lib.hid hx1
  have AB := Lib.hid (show a < a1 ∧ a1 ≤ b1 + 1 ∧ b1 < n ∧ a < n by omega)
  have JN := Lib.hid (show b1 < n by omega)
  have A1 := Lib.hid (show 1 ≤ p2 by have := G1.out; omega)
  clear hH hn hx hy sw1 sw2 hap hpb hb ha1 hb1 hp2 hq2 hx1 hR hd1
  go_enter Try.func55, Try.ntmps55
  go_wp2
  go_region
  all_goals
    clear c1 c2 c3 c4 c5 f1 f2 f3 f4 f5 i2
    go_upto_block 0 with fail
    go_cut [10] (fun v wx => v = .int .i64 p2 ∧ p2 ≤ n ∧ Lay W g o d d1 wx)
    case first =>
      go_wp2_with fail
      go_loopw [10] (fun i_ V => ∃ k : Nat, i_ = .int .i64 k ∧ a < k ∧ k ≤ n ∧ p2 = scanUp (fun y => ltN y x) d1 b1 k ∧ Lay W g o d d1 V) (fun i_ _ => n - (intOf i_).toNat)
      case atStart => exact ⟨a1, rfl, AB.out.1, by have := AB.out; omega, HI.out, by first | exact S2.out | exact S1.out _⟩
      case round =>
        obtain ⟨k, rfl, hak, hkn, hk, hL⟩ := hrel
        have L1 := Lib.hid hL
        have K1 := Lib.hid hk
        clear hL hk HI
        have c0 := (L1.out.at_ (j := a) (by rw [D1.out]; omega)).1
        rw [X.out] at c0
        unfold w16 at c0
        by_cases hkj : k ≤ b1
        · have i3 : (k : Int) ≤ (b1 : Int) := by omega
          have i3b : decide ((k : Int) ≤ (b1 : Int)) = true := decide_eq_true i3
          have i4 : (k : Int) < (n : Int) := by have := JN.out; omega
          have c1 := (L1.out.at_ (j := k) (by rw [D1.out]; have := JN.out; omega)).1
          obtain ⟨y, hy⟩ : ∃ y, d1[k]! = y := ⟨_, rfl⟩
          rw [hy] at c1
          unfold w16 at c1
          obtain ⟨t, ht⟩ : ∃ t, ltN y x = t := ⟨_, rfl⟩
          have HB := Lib.hid (show decide (y < x) = t from ht)
          cases t with
          | true =>
            have KN := Lib.hid (K1.out.trans (up_go hkj (by rw [hy, ht])))
            clear ht hy K1
            go_upto_region 3 with fail
            go_quiet ((go_at_call 53; exact Calls.quiet_of_same (less_c y x _ true HB.out)))
            go_wp2
            go_roundw
            case rel => exact ⟨k + 1, by go_num, by omega, by omega, KN.out, by first | exact L1.out | exact L1.out.drewN _⟩
            case measure => simp [intOf] <;> omega
          | false =>
            have KN := Lib.hid (K1.out.trans (up_no (by rw [hy, ht])))
            clear ht hy K1
            go_upto_region 3 with fail
            go_quiet ((go_at_call 53; exact Calls.quiet_of_same (less_c y x _ false HB.out)))
            go_wp2
            go_meet
            exact ⟨by rw [KN.out], by rw [KN.out]; exact hkn, by first | exact L1.out | exact L1.out.drewN _⟩
        · have i3 : ¬ (k : Int) ≤ (b1 : Int) := by omega
          have i3b : decide ((k : Int) ≤ (b1 : Int)) = false := decide_eq_false i3
          have KN := Lib.hid (K1.out.trans (up_far hkj))
          clear K1
          go_upto_region 3 with fail
          go_quiet (fail)
          go_wp2
          go_meet
          exact ⟨by rw [KN.out], by rw [KN.out]; exact hkn, by first | exact L1.out | exact L1.out.drewN _⟩
    case rest =>
      obtain ⟨rfl, h2n, hL⟩ := hcut
      have L2 := Lib.hid hL
      have PN := Lib.hid h2n
      obtain ⟨V, hV⟩ : ∃ V : World, V = wc := ⟨_, rfl⟩
      rw [← hV] at L2 ⊢
      clear hL hV HI h2n S1 S2
      go_upto_block 2 with fail
      go_cut [11] (fun v wx => v = .int .i64 q2 ∧ Lay W g o d d1 wx)
      case first =>
        go_wp2_with fail
        go_loopw [11] (fun i_ V => ∃ k : Nat, i_ = .int .i64 k ∧ k ≤ b1 ∧ q2 = scanDown (fun y => !ltN y x) d1 p2 k ∧ Lay W g o d d1 V) (fun i_ _ => (intOf i_).toNat)
        case atStart => exact ⟨b1, rfl, Nat.le_refl _, HJ.out, L2.out⟩
        case round =>
          obtain ⟨k, rfl, hkj, hk, hL⟩ := hrel
          have L3 := Lib.hid hL
          have K1 := Lib.hid hk
          clear hL hk HJ
          have c0 := (L3.out.at_ (j := a) (by rw [D1.out]; omega)).1
          rw [X.out] at c0
          unfold w16 at c0
          by_cases hik : p2 ≤ k
          · have i3 : (p2 : Int) ≤ (k : Int) := by omega
            have i3b : decide ((p2 : Int) ≤ (k : Int)) = true := decide_eq_true i3
            have i4 : (k : Int) < (n : Int) := by have := JN.out; omega
            have c1 := (L3.out.at_ (j := k) (by rw [D1.out]; have := JN.out; omega)).1
            obtain ⟨y, hy⟩ : ∃ y, d1[k]! = y := ⟨_, rfl⟩
            rw [hy] at c1
            unfold w16 at c1
            obtain ⟨t, ht⟩ : ∃ t, ltN y x = t := ⟨_, rfl⟩
            have HB := Lib.hid (show decide (y < x) = t from ht)
            cases t with
            | false =>
              obtain ⟨m, hm⟩ : ∃ m, k = m + 1 := ⟨k - 1, by have := A1.out; omega⟩
              have wm : IntKind.i64.wrap ((k : Int) - 1) = (m : Int) := by rw [show (k : Int) - 1 = (m : Int) by omega]; exact IntWalk.i64_in _ (by omega)
              have KN := Lib.hid (K1.out.trans (down_go hik hm (by rw [hy, ht]; rfl)))
              have KM := Lib.hid hm
              clear ht hy K1 hm
              go_upto_region 5 with fail
              go_quiet ((go_at_call 53; exact Calls.quiet_of_same (less_c y x _ false HB.out)))
              go_wp2
              go_roundw
              case rel => exact ⟨m, by go_num, by have := KM.out; omega, KN.out, by first | exact L3.out | exact L3.out.drewN _⟩
              case measure => have := KM.out; simp [intOf] <;> omega
            | true =>
              have KN := Lib.hid (K1.out.trans (down_no (by rw [hy, ht]; rfl)))
              clear ht hy K1
              go_upto_region 5 with fail
              go_quiet ((go_at_call 53; exact Calls.quiet_of_same (less_c y x _ true HB.out)))
              go_wp2
              go_meet
              exact ⟨by rw [KN.out], by first | exact L3.out | exact L3.out.drewN _⟩
          · have i3 : ¬ (p2 : Int) ≤ (k : Int) := by omega
            have i3b : decide ((p2 : Int) ≤ (k : Int)) = false := decide_eq_false i3
            have KN := Lib.hid (K1.out.trans (down_far hik))
            clear K1
            go_upto_region 5 with fail
            go_quiet (fail)
            go_wp2
            go_meet
            exact ⟨by rw [KN.out], by first | exact L3.out | exact L3.out.drewN _⟩
      case rest =>
        obtain ⟨rfl, hL⟩ := hcut
        have L3 := Lib.hid hL
        obtain ⟨V2, hV⟩ : ∃ V : World, V = wc := ⟨_, rfl⟩
        rw [← hV] at L3 ⊢
        clear hL hV L2 HJ
        by_cases hgt : p2 > q2
        · have i3 : (q2 : Int) < (p2 : Int) := by omega
          have hE := RE.out
          rw [if_pos hgt] at hE
          injection hE with e1 e2
          injection e2 with e2 e3
          subst e1 e2 e3
          clear RE hgt
          have i4 : (mid : Int) < (n : Int) := by have := G2.out; have := JN.out; omega
          have i5 : (a : Int) < (n : Int) := by have := AB.out; omega
          obtain ⟨u, hu⟩ : ∃ u, d1[mid]! = u := ⟨_, rfl⟩
          obtain ⟨v, hv⟩ : ∃ v, d1[a]! = v := ⟨_, rfl⟩
          obtain ⟨z2, c1, f1, c2, f2, c3, f3, c4, f4, sw1, sw2⟩ := L3.out.pair (i := mid) (j := a) (by rw [D1.out]; have := G2.out; have := JN.out; omega) (by rw [D1.out]; have := AB.out; omega) hu hv
          have c5 : (V2.setCell ⟨g, o + mid, none⟩ (.int .u16 (v : Int))).cell? ⟨g, o + a, none⟩ = some (.int .u16 (z2 : Int)) := c3 0
          have f5 : (V2.setCell ⟨g, o + mid, none⟩ (.int .u16 (v : Int))).frozen? ⟨g, o + a, none⟩ = false := f3 0
          have S3 := Lib.hid sw1
          have S4 := Lib.hid sw2
          clear hu hv sw1 sw2
          go_wp2
          go_region
          all_goals
            clear c1 c2 c3 c4 c5 f1 f2 f3 f4 f5
            go_wp2
            go_ret2
            exact ⟨rfl, by first | exact S4.out | exact S3.out _⟩
        · have i3 : ¬ (q2 : Int) < (p2 : Int) := by omega
          have hE := RE.out
          rw [if_neg hgt] at hE
          obtain ⟨r, hr⟩ : ∃ r, r = partLoop ltN a (p2 + 1) (q2 - 1) (Sort.swp d1 p2 q2) := ⟨_, rfl⟩
          rw [← hr] at hE
          obtain ⟨r1, r2⟩ := r
          injection hE with e1 e2
          injection e2 with e2 e3
          have hE1 : mid = r1 := e1
          have hE3 : d' = Sort.swp r2 r1 a := e3
          subst hE1 hE3 e2
          obtain ⟨q3, hq3⟩ : ∃ q3, q3 = q2 - 1 := ⟨_, rfl⟩
          rw [← hq3] at hr
          have wj : IntKind.i64.wrap ((q2 : Int) - 1) = (q3 : Int) := by rw [show (q2 : Int) - 1 = (q3 : Int) by have := A1.out; omega]; exact IntWalk.i64_in _ (by have := G2.out; have := JN.out; omega)
          have RN := Lib.hid hr
          have GG := Lib.hid (show a < p2 ∧ p2 < n ∧ q3 < n by have := AB.out; have := G1.out; have := G2.out; omega)
          clear RE hgt hq3 hr e1 e3
          have i4 : (p2 : Int) < (n : Int) := by have := GG.out; omega
          have i5 : (q2 : Int) < (n : Int) := by have := G2.out; have := JN.out; omega
          obtain ⟨u, hu⟩ : ∃ u, d1[p2]! = u := ⟨_, rfl⟩
          obtain ⟨v, hv⟩ : ∃ v, d1[q2]! = v := ⟨_, rfl⟩
          obtain ⟨z2, c1, f1, c2, f2, c3, f3, c4, f4, sw1, sw2⟩ := L3.out.pair (i := p2) (j := q2) (by rw [D1.out]; have := GG.out; omega) (by rw [D1.out]; have := G2.out; have := JN.out; omega) hu hv
          have c5 : (V2.setCell ⟨g, o + p2, none⟩ (.int .u16 (v : Int))).cell? ⟨g, o + q2, none⟩ = some (.int .u16 (z2 : Int)) := c3 0
          have f5 : (V2.setCell ⟨g, o + p2, none⟩ (.int .u16 (v : Int))).frozen? ⟨g, o + q2, none⟩ = false := f3 0
          have S3 := Lib.hid sw1
          have S4 := Lib.hid sw2
          clear hu hv sw1 sw2
          go_wp2
          go_region
          all_goals
            clear c1 c2 c3 c4 c5 f1 f2 f3 f4 f5 i5 i3
            go_wp2
            go_loopw [10, 11] (fun i_ j_ V => ∃ (i j : Nat) (d2 : Array Nat), i_ = .int .i64 i ∧ j_ = .int .i64 j ∧ a < i ∧ i ≤ n ∧ j < n ∧ (mid, r2) = partLoop ltN a i j d2 ∧ Lay W g o d d2 V) (fun i_ j_ _ => n - (intOf i_).toNat)
            case atStart => exact ⟨p2 + 1, q3, _, by go_num, by first | rfl | go_num, by have := GG.out; omega, by have := GG.out; omega, by have := GG.out; omega, RN.out, by first | exact S4.out | exact S3.out _⟩
            case round =>
              obtain ⟨i, j, d2, rfl, rfl, hai, hin, hjn, hr, hL⟩ := hrel
              have RR := Lib.hid hr
              have LL := Lib.hid hL
              have DD := Lib.hid (hL.size.trans HN.out)
              clear hr hL i4 S3 S4 wa wb wj X JN A1 G1 G2 GG RN
              obtain ⟨s2, hs2⟩ : ∃ s2, s2 = scanUp (fun x => ltN x d2[a]!) d2 j i := ⟨_, rfl⟩
              obtain ⟨t2, ht2⟩ : ∃ t2, t2 = scanDown (fun x => !ltN x d2[a]!) d2 s2 j := ⟨_, rfl⟩
              have RE := Lib.hid (show (mid, r2) = if s2 > t2 then (t2, d2) else partLoop ltN a (s2 + 1) (t2 - 1) (Sort.swp d2 s2 t2) by
                rw [RR.out, partLoop_eq, ← hs2, ← ht2])
              have G1 := Lib.hid (show i ≤ s2 from by rw [hs2]; exact scanUp_ge _ _ _ _)
              have G2 := Lib.hid (show t2 ≤ j from by rw [ht2]; exact scanDown_le _ _ _ _)
              have HI := Lib.hid hs2
              have HJ := Lib.hid ht2
              obtain ⟨y1, hx1⟩ : ∃ x, d2[a]! = x := ⟨_, rfl⟩
              rw [hx1] at HI HJ
              have X := Lib.hid hx1
              have JN := Lib.hid hjn
              have A1 := Lib.hid (show 1 ≤ s2 by have := G1.out; omega)
              clear hs2 ht2 hx1 RR
              clear x
              obtain ⟨x, hx⟩ : ∃ x, x = y1 := ⟨_, rfl⟩
              subst hx
              have AN := Lib.hid (show a < n by omega)
              go_upto_block 6 with fail
              go_cut [10] (fun v wx => v = .int .i64 s2 ∧ s2 ≤ n ∧ Lay W g o d d2 wx)
              case first =>
                go_wp2_with fail
                go_loopw [10] (fun i_ V => ∃ k : Nat, i_ = .int .i64 k ∧ a < k ∧ k ≤ n ∧ s2 = scanUp (fun y => ltN y x) d2 j k ∧ Lay W g o d d2 V) (fun i_ _ => n - (intOf i_).toNat)
                case atStart => exact ⟨i, rfl, hai, hin, HI.out, LL.out⟩
                case round =>
                  obtain ⟨k, rfl, hak, hkn, hk, hL⟩ := hrel
                  have L1 := Lib.hid hL
                  have K1 := Lib.hid hk
                  clear hL hk HI LL
                  have c0 := (L1.out.at_ (j := a) (by rw [DD.out]; omega)).1
                  rw [X.out] at c0
                  unfold w16 at c0
                  by_cases hkj : k ≤ j
                  · have i3 : (k : Int) ≤ (j : Int) := by omega
                    have i3b : decide ((k : Int) ≤ (j : Int)) = true := decide_eq_true i3
                    have i4 : (k : Int) < (n : Int) := by have := JN.out; omega
                    have c1 := (L1.out.at_ (j := k) (by rw [DD.out]; have := JN.out; omega)).1
                    obtain ⟨y, hy⟩ : ∃ y, d2[k]! = y := ⟨_, rfl⟩
                    rw [hy] at c1
                    unfold w16 at c1
                    obtain ⟨t, ht⟩ : ∃ t, ltN y x = t := ⟨_, rfl⟩
                    have HB := Lib.hid (show decide (y < x) = t from ht)
                    cases t with
                    | true =>
                      have KN := Lib.hid (K1.out.trans (up_go hkj (by rw [hy, ht])))
                      clear ht hy K1
                      go_upto_region 13 with fail
                      go_quiet ((go_at_call 53; exact Calls.quiet_of_same (less_c y x _ true HB.out)))
                      go_wp2
                      go_roundw
                      case rel => exact ⟨k + 1, by go_num, by omega, by omega, KN.out, by first | exact L1.out | exact L1.out.drewN _⟩
                      case measure => simp [intOf] <;> omega
                    | false =>
                      have KN := Lib.hid (K1.out.trans (up_no (by rw [hy, ht])))
                      clear ht hy K1
                      go_upto_region 13 with fail
                      go_quiet ((go_at_call 53; exact Calls.quiet_of_same (less_c y x _ false HB.out)))
                      go_wp2
                      go_meet
                      exact ⟨by rw [KN.out], by rw [KN.out]; exact hkn, by first | exact L1.out | exact L1.out.drewN _⟩
                  · have i3 : ¬ (k : Int) ≤ (j : Int) := by omega
                    have i3b : decide ((k : Int) ≤ (j : Int)) = false := decide_eq_false i3
                    have KN := Lib.hid (K1.out.trans (up_far hkj))
                    clear K1
                    go_upto_region 13 with fail
                    go_quiet (fail)
                    go_wp2
                    go_meet
                    exact ⟨by rw [KN.out], by rw [KN.out]; exact hkn, by first | exact L1.out | exact L1.out.drewN _⟩
              case rest =>
                obtain ⟨rfl, h2n, hL⟩ := hcut
                have L2 := Lib.hid hL
                have PN := Lib.hid h2n
                obtain ⟨V, hV⟩ : ∃ V : World, V = wc := ⟨_, rfl⟩
                rw [← hV] at L2 ⊢
                clear hL hV HI h2n LL
                go_upto_block 8 with fail
                go_cut [11] (fun v wx => v = .int .i64 t2 ∧ Lay W g o d d2 wx)
                case first =>
                  go_wp2_with fail
                  go_loopw [11] (fun i_ V => ∃ k : Nat, i_ = .int .i64 k ∧ k ≤ j ∧ t2 = scanDown (fun y => !ltN y x) d2 s2 k ∧ Lay W g o d d2 V) (fun i_ _ => (intOf i_).toNat)
                  case atStart => exact ⟨j, rfl, Nat.le_refl _, HJ.out, L2.out⟩
                  case round =>
                    obtain ⟨k, rfl, hkj, hk, hL⟩ := hrel
                    have L3 := Lib.hid hL
                    have K1 := Lib.hid hk
                    clear hL hk HJ L2
                    have c0 := (L3.out.at_ (j := a) (by rw [DD.out]; omega)).1
                    rw [X.out] at c0
                    unfold w16 at c0
                    by_cases hik : s2 ≤ k
                    · have i3 : (s2 : Int) ≤ (k : Int) := by omega
                      have i3b : decide ((s2 : Int) ≤ (k : Int)) = true := decide_eq_true i3
                      have i4 : (k : Int) < (n : Int) := by have := JN.out; omega
                      have c1 := (L3.out.at_ (j := k) (by rw [DD.out]; have := JN.out; omega)).1
                      obtain ⟨y, hy⟩ : ∃ y, d2[k]! = y := ⟨_, rfl⟩
                      rw [hy] at c1
                      unfold w16 at c1
                      obtain ⟨t, ht⟩ : ∃ t, ltN y x = t := ⟨_, rfl⟩
                      have HB := Lib.hid (show decide (y < x) = t from ht)
                      cases t with
                      | false =>
                        obtain ⟨m, hm⟩ : ∃ m, k = m + 1 := ⟨k - 1, by have := A1.out; omega⟩
                        have wm : IntKind.i64.wrap ((k : Int) - 1) = (m : Int) := by rw [show (k : Int) - 1 = (m : Int) by omega]; exact IntWalk.i64_in _ (by omega)
                        have KN := Lib.hid (K1.out.trans (down_go hik hm (by rw [hy, ht]; rfl)))
                        have KM := Lib.hid hm
                        clear ht hy K1 hm
                        go_upto_region 15 with fail
                        go_quiet ((go_at_call 53; exact Calls.quiet_of_same (less_c y x _ false HB.out)))
                        go_wp2
                        go_roundw
                        case rel => exact ⟨m, by go_num, by have := KM.out; omega, KN.out, by first | exact L3.out | exact L3.out.drewN _⟩
                        case measure => have := KM.out; simp [intOf] <;> omega
                      | true =>
                        have KN := Lib.hid (K1.out.trans (down_no (by rw [hy, ht]; rfl)))
                        clear ht hy K1
                        go_upto_region 15 with fail
                        go_quiet ((go_at_call 53; exact Calls.quiet_of_same (less_c y x _ true HB.out)))
                        go_wp2
                        go_meet
                        exact ⟨by rw [KN.out], by first | exact L3.out | exact L3.out.drewN _⟩
                    · have i3 : ¬ (s2 : Int) ≤ (k : Int) := by omega
                      have i3b : decide ((s2 : Int) ≤ (k : Int)) = false := decide_eq_false i3
                      have KN := Lib.hid (K1.out.trans (down_far hik))
                      clear K1
                      go_upto_region 15 with fail
                      go_quiet (fail)
                      go_wp2
                      go_meet
                      exact ⟨by rw [KN.out], by first | exact L3.out | exact L3.out.drewN _⟩
                case rest =>
                  obtain ⟨rfl, hL⟩ := hcut
                  have L3 := Lib.hid hL
                  obtain ⟨V3, hV⟩ : ∃ V : World, V = wc := ⟨_, rfl⟩
                  rw [← hV] at L3 ⊢
                  clear hL hV L2 HJ
                  by_cases hgt : s2 > t2
                  · have i3 : (t2 : Int) < (s2 : Int) := by omega
                    have hE := RE.out
                    rw [if_pos hgt] at hE
                    injection hE with e1 e2
                    subst e1 e2
                    clear RE hgt
                    have i4 : (mid : Int) < (n : Int) := by have := G2.out; have := JN.out; omega
                    have i5 : (a : Int) < (n : Int) := by have := AN.out; omega
                    obtain ⟨u, hu⟩ : ∃ u, r2[mid]! = u := ⟨_, rfl⟩
                    obtain ⟨v, hv⟩ : ∃ v, r2[a]! = v := ⟨_, rfl⟩
                    obtain ⟨z2, c1, f1, c2, f2, c3, f3, c4, f4, sw1, sw2⟩ := L3.out.pair (i := mid) (j := a) (by rw [DD.out]; have := G2.out; have := JN.out; omega) (by rw [DD.out]; have := AN.out; omega) hu hv
                    have c5 : (V3.setCell ⟨g, o + mid, none⟩ (.int .u16 (v : Int))).cell? ⟨g, o + a, none⟩ = some (.int .u16 (z2 : Int)) := c3 0
                    have f5 : (V3.setCell ⟨g, o + mid, none⟩ (.int .u16 (v : Int))).frozen? ⟨g, o + a, none⟩ = false := f3 0
                    have S3 := Lib.hid sw1
                    have S4 := Lib.hid sw2
                    clear hu hv sw1 sw2
                    go_wp2
                    go_region
                    all_goals
                      clear c1 c2 c3 c4 c5 f1 f2 f3 f4 f5
                      go_wp2
                      go_ret2
                      exact ⟨rfl, by first | exact S4.out | exact S3.out _⟩
                  · have i3 : ¬ (t2 : Int) < (s2 : Int) := by omega
                    have hE := RE.out
                    rw [if_neg hgt] at hE
                    obtain ⟨t3, ht3⟩ : ∃ t3, t3 = t2 - 1 := ⟨_, rfl⟩
                    rw [← ht3] at hE
                    have wj : IntKind.i64.wrap ((t2 : Int) - 1) = (t3 : Int) := by rw [show (t2 : Int) - 1 = (t3 : Int) by have := A1.out; omega]; exact IntWalk.i64_in _ (by have := G2.out; omega)
                    have RN := Lib.hid hE
                    have GG := Lib.hid (show i ≤ s2 ∧ t2 ≤ j ∧ 1 ≤ t2 ∧ t3 ≤ t2 ∧ s2 < n by have := G1.out; have := G2.out; have := A1.out; omega)
                    clear hE RE hgt ht3
                    have i4 : (s2 : Int) < (n : Int) := by have := GG.out; omega
                    have i5 : (t2 : Int) < (n : Int) := by have := G2.out; have := JN.out; omega
                    obtain ⟨u, hu⟩ : ∃ u, d2[s2]! = u := ⟨_, rfl⟩
                    obtain ⟨v, hv⟩ : ∃ v, d2[t2]! = v := ⟨_, rfl⟩
                    obtain ⟨z2, c1, f1, c2, f2, c3, f3, c4, f4, sw1, sw2⟩ := L3.out.pair (i := s2) (j := t2) (by rw [DD.out]; have := GG.out; omega) (by rw [DD.out]; have := G2.out; have := JN.out; omega) hu hv
                    have c5 : (V3.setCell ⟨g, o + s2, none⟩ (.int .u16 (v : Int))).cell? ⟨g, o + t2, none⟩ = some (.int .u16 (z2 : Int)) := c3 0
                    have f5 : (V3.setCell ⟨g, o + s2, none⟩ (.int .u16 (v : Int))).frozen? ⟨g, o + t2, none⟩ = false := f3 0
                    have S3 := Lib.hid sw1
                    have S4 := Lib.hid sw2
                    clear hu hv sw1 sw2
                    go_wp2
                    go_region
                    all_goals
                      clear c1 c2 c3 c4 c5 f1 f2 f3 f4 f5
                      go_wp2
                      go_roundw
                      case rel => exact ⟨s2 + 1, t3, _, by go_num, by first | rfl | go_num, by have := GG.out; omega, by have := GG.out; omega, by have := GG.out; omega, RN.out, by first | exact S4.out | exact S3.out _⟩
                      case measure => have := GG.out; simp [intOf] <;> omega
end Go.Proofs.Yteggbepibfpjcaa.Qs
