/-
  slices.Sort at []uint16: partialInsertionSortOrdered.
-/
import Derived.Test.YteggbepibfpjcaaQsD
import Derived.Sort.LotA
namespace Go.Proofs.Yteggbepibfpjcaa.Qs
set_option linter.unusedVariables false
set_option linter.unusedSimpArgs false
open Go.RowKit Mem Qr Go.Sort
theorem ss_go {d : Array Nat} {b i : Nat} (h : i < b) (hp : ltN d[i]! d[i - 1]! = false) : scanSorted ltN d b i = scanSorted ltN d b (i + 1) := by rw [scanSorted, if_pos (by simp [h, hp])]
theorem ss_stop {d : Array Nat} {b i : Nat} (hp : ltN d[i]! d[i - 1]! = true) : scanSorted ltN d b i = i := by rw [scanSorted, if_neg (by simp [hp])]
theorem ss_end {d : Array Nat} {b i : Nat} (h : ¬ i < b) : scanSorted ltN d b i = i := by rw [scanSorted, if_neg (by simp [h])]
theorem sd_go {d : Array Nat} {m p : Nat} (h : m = p + 1) (hp : ltN d[m]! d[p]! = true) : shiftDown ltN m d = shiftDown ltN p (Sort.swp d m p) := by subst h; rw [shiftDown, if_neg (by simp [hp])]
theorem sd_stop {d : Array Nat} {m p : Nat} (h : m = p + 1) (hp : ltN d[m]! d[p]! = false) : shiftDown ltN m d = d := by subst h; rw [shiftDown, if_pos (by simp [hp])]
theorem sd_low {d : Array Nat} {m : Nat} (h : m = 0) : shiftDown ltN m d = d := by subst h; rfl
theorem su_go {d : Array Nat} {b m p : Nat} (hb : m < b) (h : m = p + 1) (hp : ltN d[m]! d[p]! = true) : shiftUp ltN b m d = shiftUp ltN b (m + 1) (Sort.swp d m p) := by
  subst h; rw [shiftUp, if_pos hb]; simp [hp]
theorem su_stop {d : Array Nat} {b m p : Nat} (h : m = p + 1) (hp : ltN d[m]! d[p]! = false) : shiftUp ltN b m d = d := by
  subst h; rw [shiftUp]; simp [hp]
theorem su_end {d : Array Nat} {b m : Nat} (h : ¬ m < b) : shiftUp ltN b m d = d := by rw [shiftUp, if_neg h]
set_option maxRecDepth 100000 in
set_option maxHeartbeats 32000000 in
theorem partial_c (g o n ca a b : Nat) (d : Array Nat) (W : World) (hH : Holds w16 W g o d) (hn : d.size = n) (hbig : n ≤ 70368744177664) (hab : a < b) (hb : b ≤ n) (ok : Bool) (d' : Array Nat) (hR : partialInsertionSort ltN d a b = (d', ok)) :
    Calls Try.prog 52 #[.slice (some ⟨g, o, none⟩) n ca, .int .i64 a, .int .i64 b] W (fun e W' => e = .returned (.bool ok) ∧ Lay W g o d d' W') := by
  have L0 := Lib.hid (Lay.start hH)
  have HN := Lib.hid hn
  have HR := Lib.hid (show (d', ok) = partialIns ltN a b (5 - 0) (a + 1) d from hR.symm)
  obtain ⟨l, hl⟩ : ∃ l, l = b - a := ⟨_, rfl⟩
  have wl : IntKind.i64.wrap ((b : Int) - (a : Int)) = (l : Int) := by rw [show (b : Int) - (a : Int) = (l : Int) by omega]; exact IntWalk.i64_in _ (by omega)
  have AA := Lib.hid (show a < b ∧ b ≤ n ∧ l = b - a by omega)
  have wa : IntKind.i64.wrap ((a : Int) + 1) = ((a + 1 : Nat) : Int) := by rw [show (a : Int) + 1 = ((a + 1 : Nat) : Int) by omega]; exact IntWalk.i64_in _ (by omega)
  clear hH hn hab hb hR hl
  go_enter Try.func52, Try.ntmps52
  go_wp2
  go_loopw [7, 8] (fun i_ j_ V => ∃ (i j : Nat) (d1 : Array Nat), i_ = .int .i64 i ∧ j_ = .int .i64 j ∧ a < i ∧ i ≤ b ∧ j ≤ 5 ∧ (d', ok) = partialIns ltN a b (5 - j) i d1 ∧ Lay W g o d d1 V) (fun i_ j_ _ => 5 - (intOf j_).toNat)
  case atStart => exact ⟨a + 1, 0, d, by first | rfl | go_num, rfl, by omega, by have := AA.out; omega, by omega, HR.out, L0.out⟩
  case round =>
    obtain ⟨i, j, d1, rfl, rfl, hai, hib, hj5, hr, hL⟩ := hrel
    have RR := Lib.hid hr
    have LL := Lib.hid hL
    have D1 := Lib.hid (hL.size.trans HN.out)
    have IB := Lib.hid (show a < i ∧ i ≤ b from ⟨hai, hib⟩)
    clear hr hL L0 HR wa hai hib
    by_cases hlt : j < 5
    · have i1 : (j : Int) < 5 := by omega
      obtain ⟨t5, ht⟩ : ∃ t, 5 - j = t + 1 := ⟨4 - j, by omega⟩
      have T5 := Lib.hid (show 5 - (j + 1) = t5 by omega)
      have J5 := Lib.hid hlt
      obtain ⟨k, hk⟩ : ∃ k, k = scanSorted ltN d1 b i := ⟨_, rfl⟩
      have RE := Lib.hid (show (d', ok) = if k = b then (d1, true) else if b - a < 50 then (d1, false) else partialIns ltN a b t5 k (fixUp ltN b k (fixDown ltN a k (Sort.swp d1 k (k - 1)))) by
        rw [RR.out, ht, partialIns_succ, ← hk])
      have HK := Lib.hid hk
      clear ht hk RR hlt
      go_upto_block 2 with fail
      go_cut [7] (fun v wx => v = .int .i64 k ∧ i ≤ k ∧ k ≤ b ∧ Lay W g o d d1 wx)
      case first =>
        go_wp2_with fail
        go_loopw [7] (fun i_ V => ∃ m : Nat, i_ = .int .i64 m ∧ i ≤ m ∧ m ≤ b ∧ k = scanSorted ltN d1 b m ∧ Lay W g o d d1 V) (fun i_ _ => b - (intOf i_).toNat)
        case atStart => exact ⟨i, rfl, Nat.le_refl _, IB.out.2, HK.out, LL.out⟩
        case round =>
          obtain ⟨m, rfl, him, hmb, hk, hL⟩ := hrel
          have L1 := Lib.hid hL
          have K1 := Lib.hid hk
          have MB := Lib.hid (show i ≤ m ∧ m ≤ b from ⟨him, hmb⟩)
          clear hL hk LL HK
          by_cases hlt : m < b
          · have i2 : (m : Int) < (b : Int) := by omega
            have i2b : decide ((m : Int) < (b : Int)) = true := decide_eq_true i2
            obtain ⟨p, hp⟩ : ∃ p, p + 1 = m := ⟨m - 1, by have := IB.out; omega⟩
            have hpm : m - 1 = p := by omega
            have wm : IntKind.i64.wrap ((m : Int) - 1) = (p : Int) := by rw [show (m : Int) - 1 = (p : Int) by omega]; exact IntWalk.i64_in _ (by have := AA.out; omega)
            have j1 : (m : Int) < (n : Int) := by have := AA.out; omega
            have j2 : (p : Int) < (n : Int) := by have := AA.out; omega
            have c1 := (L1.out.at_ (j := m) (by rw [D1.out]; have := AA.out; omega)).1
            have c2 := (L1.out.at_ (j := p) (by rw [D1.out]; have := AA.out; omega)).1
            obtain ⟨u, hu⟩ : ∃ u, d1[m]! = u := ⟨_, rfl⟩
            obtain ⟨v, hv⟩ : ∃ v, d1[p]! = v := ⟨_, rfl⟩
            rw [hu] at c1
            rw [hv] at c2
            unfold w16 at c1 c2
            obtain ⟨t, ht⟩ : ∃ t, ltN u v = t := ⟨_, rfl⟩
            have HB := Lib.hid (show decide (u < v) = t from ht)
            cases t with
            | false =>
              have KN := Lib.hid (K1.out.trans (ss_go hlt (by rw [hpm, hu, hv, ht])))
              clear ht hu hv hp hpm K1
              go_upto_region 5 with fail
              go_quiet ((go_at_call 53; exact Calls.quiet_of_same (less_c u v _ false HB.out)))
              go_wp2
              go_roundw
              case rel => exact ⟨m + 1, by go_num, by have := MB.out; omega, by omega, KN.out, by first | exact L1.out | exact L1.out.drewN _⟩
              case measure => simp [intOf] <;> omega
            | true =>
              have KN := Lib.hid (K1.out.trans (ss_stop (by rw [hpm, hu, hv, ht])))
              clear ht hu hv hp hpm K1
              go_upto_region 5 with fail
              go_quiet ((go_at_call 53; exact Calls.quiet_of_same (less_c u v _ true HB.out)))
              go_wp2
              go_meet
              exact ⟨by rw [KN.out], by rw [KN.out]; exact MB.out.1, by rw [KN.out]; exact MB.out.2, by first | exact L1.out | exact L1.out.drewN _⟩
          · have i2 : ¬ (m : Int) < (b : Int) := by omega
            have i2b : decide ((m : Int) < (b : Int)) = false := decide_eq_false i2
            have KN := Lib.hid (K1.out.trans (ss_end hlt))
            clear K1
            go_upto_region 5 with fail
            go_quiet (fail)
            go_wp2
            go_meet
            exact ⟨by rw [KN.out], by rw [KN.out]; exact MB.out.1, by rw [KN.out]; exact MB.out.2, by first | exact L1.out | exact L1.out.drewN _⟩
      case rest =>
        obtain ⟨rfl, hik, hkb, hL⟩ := hcut
        have L1 := Lib.hid hL
        obtain ⟨V1, hV⟩ : ∃ V : World, V = wc := ⟨_, rfl⟩
        rw [← hV] at L1 ⊢
        clear hL hV LL HK
        by_cases hkb2 : k = b
        · have e1 : ((k : Int) == (b : Int)) = true := by simp; omega
          have hE := RE.out
          rw [if_pos hkb2] at hE
          injection hE with e2 e3
          subst e2 e3
          clear RE hkb2 hik hkb
          go_wp2
          go_ret
          exact ⟨rfl, L1.out⟩
        · have e1 : ((k : Int) == (b : Int)) = false := by simp; omega
          by_cases h50 : l < 50
          · have e4 : (l : Int) < 50 := by omega
            have hE := RE.out
            rw [if_neg hkb2, if_pos (by have := AA.out; omega)] at hE
            injection hE with e2 e3
            subst e2 e3
            clear RE hkb2 h50 hik hkb
            go_wp2
            go_ret
            exact ⟨rfl, L1.out⟩
          · have e4 : ¬ (l : Int) < 50 := by omega
            obtain ⟨kp, hkp⟩ : ∃ kp, kp = k - 1 := ⟨_, rfl⟩
            obtain ⟨d2, hd2⟩ : ∃ d2, d2 = Sort.swp d1 k kp := ⟨_, rfl⟩
            obtain ⟨d3, hd3⟩ : ∃ d3, d3 = fixDown ltN a k d2 := ⟨_, rfl⟩
            obtain ⟨d5, hd5⟩ : ∃ d5, d5 = fixUp ltN b k d3 := ⟨_, rfl⟩
            have hE := RE.out
            rw [if_neg hkb2, if_neg (by have := AA.out; omega), ← hkp, ← hd2, ← hd3, ← hd5, ← T5.out] at hE
            have RN5 := Lib.hid hE
            have KK := Lib.hid (show a < k ∧ i ≤ k ∧ k < b ∧ b ≤ n ∧ kp + 1 = k by have := AA.out; have := IB.out; omega)
            have wk : IntKind.i64.wrap ((k : Int) - 1) = (kp : Int) := by rw [show (k : Int) - 1 = (kp : Int) by have := KK.out; omega]; exact IntWalk.i64_in _ (by have := KK.out; omega)
            have wk1 : IntKind.i64.wrap ((k : Int) + 1) = ((k + 1 : Nat) : Int) := by rw [show (k : Int) + 1 = ((k + 1 : Nat) : Int) by omega]; exact IntWalk.i64_in _ (by have := KK.out; omega)
            obtain ⟨ka, hka⟩ : ∃ ka, ka = k - a := ⟨_, rfl⟩
            obtain ⟨bk, hbk⟩ : ∃ bk, bk = b - k := ⟨_, rfl⟩
            have wka : IntKind.i64.wrap ((k : Int) - (a : Int)) = (ka : Int) := by rw [show (k : Int) - (a : Int) = (ka : Int) by have := KK.out; omega]; exact IntWalk.i64_in _ (by have := KK.out; omega)
            have wbk : IntKind.i64.wrap ((b : Int) - (k : Int)) = (bk : Int) := by rw [show (b : Int) - (k : Int) = (bk : Int) by have := KK.out; omega]; exact IntWalk.i64_in _ (by have := KK.out; omega)
            obtain ⟨fa, hfa⟩ : ∃ fa, decide ((2 : Int) ≤ (ka : Int)) = fa := ⟨_, rfl⟩
            obtain ⟨fb, hfb⟩ : ∃ fb, decide ((2 : Int) ≤ (bk : Int)) = fb := ⟨_, rfl⟩
            have AF := Lib.hid (show d3 = if fa = true then shiftDown ltN kp d2 else d2 by
              rw [hd3, fixDown, ← hkp, ← hka]
              by_cases h2 : 2 ≤ ka
              · rw [if_pos h2, if_pos (by rw [← hfa]; exact decide_eq_true (by omega))]
              · rw [if_neg h2, if_neg (by rw [← hfa]; simp; omega)])
            have BF := Lib.hid (show d5 = if fb = true then shiftUp ltN b (k + 1) d3 else d3 by
              rw [hd5, fixUp, ← hbk]
              by_cases h2 : 2 ≤ bk
              · rw [if_pos h2, if_pos (by rw [← hfb]; exact decide_eq_true (by omega))]
              · rw [if_neg h2, if_neg (by rw [← hfb]; simp; omega)])
            have LS := Lib.hid (show ∀ X, Lay W g o d (Sort.swp d1 k kp) X → Lay W g o d d2 X from fun X h => by rw [hd2]; exact h)
            obtain ⟨u, hu⟩ : ∃ u, d1[k]! = u := ⟨_, rfl⟩
            obtain ⟨v, hv⟩ : ∃ v, d1[kp]! = v := ⟨_, rfl⟩
            have i4 : (k : Int) < (n : Int) := by have := KK.out; omega
            have i5 : (kp : Int) < (n : Int) := by have := KK.out; omega
            obtain ⟨z2, c1, f1, c2, f2, c3, f3, c4, f4, sw1, sw2⟩ := L1.out.pair (i := k) (j := kp) (by rw [D1.out]; have := KK.out; omega) (by rw [D1.out]; have := KK.out; omega) hu hv
            have c5 : (V1.setCell ⟨g, o + k, none⟩ (.int .u16 (v : Int))).cell? ⟨g, o + kp, none⟩ = some (.int .u16 (z2 : Int)) := c3 0
            have f5 : (V1.setCell ⟨g, o + k, none⟩ (.int .u16 (v : Int))).frozen? ⟨g, o + kp, none⟩ = false := f3 0
            have S3 := Lib.hid sw1
            have S4 := Lib.hid sw2
            clear sw1 sw2
            clear hu hv hkb2 h50 hik hkb hkp hd2 hd3 hd5 hE RE hka hbk
            go_upto_region 11 with fail
            go_cut [7] (fun v wx => v = .int .i64 k ∧ Lay W g o d d2 wx)
            case first =>
              go_wp2_with fail
              go_region
              all_goals
                clear c1 c2 c3 c4 c5 f1 f2 f3 f4 f5
                go_wp2_with fail
                go_meet
                exact ⟨rfl, LS.out _ (by first | exact S4.out | exact S3.out _)⟩
            case rest =>
              clear c1 c2 c3 c4 c5 f1 f2 f3 f4 f5 S3 S4 i4 i5
              obtain ⟨rfl, hL⟩ := hcut
              have L2 := Lib.hid hL
              obtain ⟨V2, hV⟩ : ∃ V : World, V = wc := ⟨_, rfl⟩
              rw [← hV] at L2 ⊢
              clear hL hV L1 LS
              go_upto_if 61 with fail
              go_cut [7] (fun v wx => v = .int .i64 k ∧ Lay W g o d d3 wx)
              case first =>
                cases fa with
                | false =>
                  go_wp2_with fail
                  go_meet
                  exact ⟨rfl, by rw [AF.out]; exact L2.out⟩
                | true =>
                  go_wp2_with fail
                  go_loopw [9] (fun i_ V => ∃ (m : Nat) (d4 : Array Nat), i_ = .int .i64 m ∧ m ≤ k ∧ d3 = shiftDown ltN m d4 ∧ Lay W g o d d4 V) (fun i_ _ => (intOf i_).toNat)
                  case atStart => exact ⟨kp, _, by first | rfl | go_num, by have := KK.out; omega, AF.out, L2.out⟩
                  case round =>
                    obtain ⟨m, d4, rfl, hm, hr, hL⟩ := hrel
                    have RR := Lib.hid hr
                    have L4 := Lib.hid hL
                    have D4 := Lib.hid (hL.size.trans HN.out)
                    have MB := Lib.hid (show m ≤ k from hm)
                    clear hr hL AF
                    by_cases hlt : 1 ≤ m
                    · have i1 : (1 : Int) ≤ (m : Int) := by omega
                      obtain ⟨p, hp⟩ : ∃ p, p + 1 = m := ⟨m - 1, by have := KK.out; omega⟩
                      have wm : IntKind.i64.wrap ((m : Int) - 1) = (p : Int) := by rw [show (m : Int) - 1 = (p : Int) by omega]; exact IntWalk.i64_in _ (by have := KK.out; omega)
                      have j1 : (m : Int) < (n : Int) := by have := KK.out; omega
                      have j2 : (p : Int) < (n : Int) := by have := KK.out; omega
                      have c1 := (L4.out.at_ (j := m) (by rw [D4.out]; have := KK.out; omega)).1
                      have c2 := (L4.out.at_ (j := p) (by rw [D4.out]; have := KK.out; omega)).1
                      obtain ⟨u, hu⟩ : ∃ u, d4[m]! = u := ⟨_, rfl⟩
                      obtain ⟨v, hv⟩ : ∃ v, d4[p]! = v := ⟨_, rfl⟩
                      rw [hu] at c1
                      rw [hv] at c2
                      unfold w16 at c1 c2
                      have PM := Lib.hid hp
                      obtain ⟨t, ht⟩ : ∃ t, ltN u v = t := ⟨_, rfl⟩
                      have HB := Lib.hid (show decide (u < v) = t from ht)
                      cases t with
                      | false =>
                        have RN := Lib.hid (RR.out.trans (sd_stop hp.symm (by rw [hu, hv, ht])))
                        clear ht hu hv hp RR
                        go_upto_region 16 with fail
                        go_quiet ((go_at_call 53; exact Calls.quiet_of_same (less_c u v _ false HB.out)))
                        go_wp2
                        go_meet
                        exact ⟨rfl, by rw [RN.out]; first | exact L4.out | exact L4.out.drewN _⟩
                      | true =>
                        have RN := Lib.hid (RR.out.trans (sd_go hp.symm (by rw [hu, hv, ht])))
                        clear ht RR c1 c2 j1 j2
                        have i4 : (m : Int) < (n : Int) := by have := KK.out; have := MB.out; omega
                        have i5 : (p : Int) < (n : Int) := by have := KK.out; have := MB.out; have := PM.out; omega
                        obtain ⟨z2, c1, f1, c2, f2, c3, f3, c4, f4, sw1, sw2⟩ := L4.out.pair (i := m) (j := p) (by rw [D4.out]; have := KK.out; have := MB.out; omega) (by rw [D4.out]; have := KK.out; have := MB.out; have := PM.out; omega) hu hv
                        have c5 : (wr.setCell ⟨g, o + m, none⟩ (.int .u16 (v : Int))).cell? ⟨g, o + p, none⟩ = some (.int .u16 (z2 : Int)) := c3 0
                        have f5 : (wr.setCell ⟨g, o + m, none⟩ (.int .u16 (v : Int))).frozen? ⟨g, o + p, none⟩ = false := f3 0
                        have S3 := Lib.hid sw1
                        have S4 := Lib.hid sw2
                        clear sw1 sw2
                        clear hu hv hp
                        go_upto_region 16 with fail
                        go_quiet ((go_at_call 53; exact Calls.quiet_of_same (less_c u v _ true HB.out)))
                        go_wp2
                        go_region
                        all_goals
                          clear c1 c2 c3 c4 c5 f1 f2 f3 f4 f5
                          go_wp2
                          go_roundw
                          case rel => exact ⟨p, _, by first | rfl | go_num, by have := PM.out; omega, RN.out, by first | exact S4.out | exact S3.out _⟩
                          case measure => have := PM.out; simp [intOf] <;> omega
                    · have i1 : ¬ (1 : Int) ≤ (m : Int) := by omega
                      have RN := Lib.hid (RR.out.trans (sd_low (by omega)))
                      clear hlt RR
                      go_wp2
                      go_meet
                      exact ⟨rfl, by rw [RN.out]; exact L4.out⟩
              case rest =>
                obtain ⟨rfl, hL⟩ := hcut
                have L3 := Lib.hid hL
                obtain ⟨V3, hV⟩ : ∃ V : World, V = wc := ⟨_, rfl⟩
                rw [← hV] at L3 ⊢
                clear hL hV L2 AF
                cases fb with
                | false =>
                  go_wp2
                  go_roundw
                  case rel => exact ⟨k, j + 1, _, by first | rfl | go_num, by go_num, by have := KK.out; omega, by have := KK.out; omega, by have := J5.out; omega, RN5.out, by rw [BF.out]; exact L3.out⟩
                  case measure => have := J5.out; simp [intOf] <;> omega
                | true =>
                  go_wp2_with fail
                  go_loopw [10] (fun i_ V => ∃ (m : Nat) (d4 : Array Nat), i_ = .int .i64 m ∧ k ≤ m ∧ m ≤ b ∧ d5 = shiftUp ltN b m d4 ∧ Lay W g o d d4 V) (fun i_ _ => b - (intOf i_).toNat)
                  case atStart => exact ⟨k + 1, _, by first | rfl | go_num, by have := KK.out; omega, by have := KK.out; omega, BF.out, L3.out⟩
                  case round =>
                    obtain ⟨m, d4, rfl, hm, hmb, hr, hL⟩ := hrel
                    have RR := Lib.hid hr
                    have L4 := Lib.hid hL
                    have D4 := Lib.hid (hL.size.trans HN.out)
                    have MB := Lib.hid (show k ≤ m ∧ m ≤ b from ⟨hm, hmb⟩)
                    clear hr hL BF
                    by_cases hlt : m < b
                    · have i1 : (m : Int) < (b : Int) := by omega
                      obtain ⟨p, hp⟩ : ∃ p, p + 1 = m := ⟨m - 1, by have := KK.out; omega⟩
                      have wm : IntKind.i64.wrap ((m : Int) - 1) = (p : Int) := by rw [show (m : Int) - 1 = (p : Int) by omega]; exact IntWalk.i64_in _ (by have := KK.out; omega)
                      have j1 : (m : Int) < (n : Int) := by have := KK.out; omega
                      have j2 : (p : Int) < (n : Int) := by have := KK.out; omega
                      have c1 := (L4.out.at_ (j := m) (by rw [D4.out]; have := KK.out; omega)).1
                      have c2 := (L4.out.at_ (j := p) (by rw [D4.out]; have := KK.out; omega)).1
                      obtain ⟨u, hu⟩ : ∃ u, d4[m]! = u := ⟨_, rfl⟩
                      obtain ⟨v, hv⟩ : ∃ v, d4[p]! = v := ⟨_, rfl⟩
                      rw [hu] at c1
                      rw [hv] at c2
                      unfold w16 at c1 c2
                      have PM := Lib.hid hp
                      obtain ⟨t, ht⟩ : ∃ t, ltN u v = t := ⟨_, rfl⟩
                      have HB := Lib.hid (show decide (u < v) = t from ht)
                      cases t with
                      | false =>
                        have RN := Lib.hid (RR.out.trans (su_stop hp.symm (by rw [hu, hv, ht])))
                        clear ht hu hv hp RR
                        go_upto_region 22 with fail
                        go_quiet ((go_at_call 53; exact Calls.quiet_of_same (less_c u v _ false HB.out)))
                        go_wp2
                        go_roundw
                        case rel => exact ⟨k, j + 1, _, by first | rfl | go_num, by go_num, by have := KK.out; omega, by have := KK.out; omega, by have := J5.out; omega, RN5.out, by rw [RN.out]; first | exact L4.out | exact L4.out.drewN _⟩
                        case measure => have := J5.out; simp [intOf] <;> omega
                      | true =>
                        have RN := Lib.hid (RR.out.trans (su_go (by omega) hp.symm (by rw [hu, hv, ht])))
                        clear ht RR c1 c2 j1 j2
                        have i4 : (m : Int) < (n : Int) := by have := KK.out; have := MB.out; omega
                        have i5 : (p : Int) < (n : Int) := by have := KK.out; have := MB.out; have := PM.out; omega
                        obtain ⟨z2, c1, f1, c2, f2, c3, f3, c4, f4, sw1, sw2⟩ := L4.out.pair (i := m) (j := p) (by rw [D4.out]; have := KK.out; have := MB.out; omega) (by rw [D4.out]; have := KK.out; have := MB.out; have := PM.out; omega) hu hv
                        have c5 : (wr.setCell ⟨g, o + m, none⟩ (.int .u16 (v : Int))).cell? ⟨g, o + p, none⟩ = some (.int .u16 (z2 : Int)) := c3 0
                        have f5 : (wr.setCell ⟨g, o + m, none⟩ (.int .u16 (v : Int))).frozen? ⟨g, o + p, none⟩ = false := f3 0
                        have S3 := Lib.hid sw1
                        have S4 := Lib.hid sw2
                        clear sw1 sw2
                        clear hu hv hp
                        go_upto_region 22 with fail
                        go_quiet ((go_at_call 53; exact Calls.quiet_of_same (less_c u v _ true HB.out)))
                        go_wp2
                        go_region
                        all_goals
                          clear c1 c2 c3 c4 c5 f1 f2 f3 f4 f5
                          go_wp2
                          go_roundw
                          case rel => exact ⟨m + 1, _, by go_num, by have := MB.out; omega, by have := MB.out; omega, RN.out, by first | exact S4.out | exact S3.out _⟩
                          case measure => have := PM.out; simp [intOf] <;> omega
                    · have i1 : ¬ (m : Int) < (b : Int) := by omega
                      have RN := Lib.hid (RR.out.trans (su_end (by omega)))
                      clear hlt RR
                      go_wp2
                      go_roundw
                      case rel => exact ⟨k, j + 1, _, by first | rfl | go_num, by go_num, by have := KK.out; omega, by have := KK.out; omega, by have := J5.out; omega, RN5.out, by rw [RN.out]; exact L4.out⟩
                      case measure => have := J5.out; simp [intOf] <;> omega
    · have i1 : ¬ (j : Int) < 5 := by omega
      obtain rfl : j = 5 := by omega
      have hE := RR.out
      rw [show 5 - 5 = 0 from rfl, partialIns] at hE
      injection hE with e2 e3
      subst e2 e3
      clear RR hlt hj5
      go_wp2
      go_ret
      exact ⟨rfl, LL.out⟩
end Go.Proofs.Yteggbepibfpjcaa.Qs
