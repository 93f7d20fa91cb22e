/-
  slices.Sort at []uint16: reverseRangeOrdered, siftDownOrdered, heapSortOrdered.
-/
import Derived.Test.YteggbepibfpjcaaQsA
namespace Go.Proofs.Yteggbepibfpjcaa.Qs
set_option linter.unusedVariables false
set_option linter.unusedSimpArgs false
open Go.RowKit Mem Qr Go.Sort

theorem Lay.size {W V : World} {g o : Nat} {d0 d : Array Nat} (h : Lay W g o d0 d V) : d.size = d0.size := h.2.1
/-- All that a swap of two places wants to know. -/
theorem Lay.pair {W V : World} {g o : Nat} {d0 d : Array Nat} (h : Lay W g o d0 d V) {i j : Nat} (hi : i < d.size) (hj : j < d.size) {x y : Nat} (hx : d[i]! = x) (hy : d[j]! = y) :
    ∃ z : Nat, V.cell? ⟨g, o + i, none⟩ = some (.int .u16 (x : Int)) ∧ V.frozen? ⟨g, o + i, none⟩ = false ∧ V.cell? ⟨g, o + j, none⟩ = some (.int .u16 (y : Int)) ∧ V.frozen? ⟨g, o + j, none⟩ = false ∧
      (∀ k, ((V.drewN k).setCell ⟨g, o + i, none⟩ (.int .u16 (y : Int))).cell? ⟨g, o + j, none⟩ = some (.int .u16 (z : Int))) ∧ (∀ k, ((V.drewN k).setCell ⟨g, o + i, none⟩ (.int .u16 (y : Int))).frozen? ⟨g, o + j, none⟩ = false) ∧
      (V.drew.setCell ⟨g, o + i, none⟩ (.int .u16 (y : Int))).cell? ⟨g, o + j, none⟩ = some (.int .u16 (z : Int)) ∧ (V.drew.setCell ⟨g, o + i, none⟩ (.int .u16 (y : Int))).frozen? ⟨g, o + j, none⟩ = false ∧
      (∀ k, Lay W g o d0 (Sort.swp d i j) (((V.drewN k).setCell ⟨g, o + i, none⟩ (.int .u16 (y : Int))).setCell ⟨g, o + j, none⟩ (.int .u16 (x : Int)))) ∧
      Lay W g o d0 (Sort.swp d i j) ((V.drew.setCell ⟨g, o + i, none⟩ (.int .u16 (y : Int))).setCell ⟨g, o + j, none⟩ (.int .u16 (x : Int))) := by
  subst hx hy
  have hj' : ∀ u : Nat, j < (d.setIfInBounds i u).size := fun u => by rw [Array.size_setIfInBounds]; exact hj
  exact ⟨_, (h.at_ hi).1, (h.at_ hi).2, (h.at_ hj).1, (h.at_ hj).2, fun k => (((h.drewN k).put hi d[j]!).at_ (hj' _)).1, fun k => (((h.drewN k).put hi d[j]!).at_ (hj' _)).2, ((h.drew.put hi d[j]!).at_ (hj' _)).1, ((h.drew.put hi d[j]!).at_ (hj' _)).2, fun k => (h.drewN k).swp hi hj, h.drew.swp hi hj⟩

theorem rev_go {i j : Nat} {d : Array Nat} (h : i < j) : reverseLoop i j d = reverseLoop (i + 1) (j - 1) (Sort.swp d i j) := by rw [reverseLoop, if_pos h]
theorem rev_end {i j : Nat} {d : Array Nat} (h : ¬ i < j) : reverseLoop i j d = d := by rw [reverseLoop, if_neg h]
set_option maxRecDepth 100000 in
set_option maxHeartbeats 8000000 in
theorem reverse_c (g o n ca a b : Nat) (d : Array Nat) (W : World) (hH : Holds w16 W g o d) (hn : d.size = n) (hbig : n ≤ 70368744177664) (hab : a < b) (hb : b ≤ n) :
    Calls Try.prog 51 #[.slice (some ⟨g, o, none⟩) n ca, .int .i64 a, .int .i64 b] W (fun e W' => e = .returned (.tuple #[]) ∧ Lay W g o d (reverseRange d a b) W') := by
  obtain ⟨r, hr⟩ : ∃ r, r = reverseRange d a b := ⟨_, rfl⟩
  rw [← hr]
  have HR := Lib.hid (show r = reverseLoop a (b - 1) d from hr)
  have L0 := Lib.hid (Lay.start hH)
  have HN := Lib.hid hn
  obtain ⟨t, ht⟩ : ∃ t, t = b - 1 := ⟨_, rfl⟩
  rw [← ht] at HR
  have w1 : IntKind.i64.wrap ((b : Int) - 1) = (t : Int) := by rw [show (b : Int) - 1 = (t : Int) by omega]; exact IntWalk.i64_in _ (by omega)
  clear hH hn hr
  go_enter Try.func51, Try.ntmps51
  go_wp2
  go_loopw [6, 7] (fun i_ j_ V => ∃ (i j : Nat) (d1 : Array Nat), i_ = .int .i64 i ∧ j_ = .int .i64 j ∧ i ≤ b ∧ j < b ∧ r = reverseLoop i j d1 ∧ Lay W g o d d1 V) (fun i_ j_ _ => (intOf j_).toNat)
  case atStart => exact ⟨a, t, d, rfl, by rw [ht], by omega, by omega, HR.out, L0.out⟩
  case round =>
    obtain ⟨i, j, d1, rfl, rfl, hi, hj, hr, hL⟩ := hrel
    have RR := Lib.hid hr
    have LL := Lib.hid hL
    have D1 := Lib.hid (hL.size.trans HN.out)
    clear hr hL L0 HR w1 ht
    by_cases hlt : i < j
    · have i1 : (i : Int) < (j : Int) := by omega
      have i2 : (i : Int) < (n : Int) := by omega
      have i3 : (j : Int) < (n : Int) := by omega
      obtain ⟨x, hx⟩ : ∃ x, d1[i]! = x := ⟨_, rfl⟩
      obtain ⟨y, hy⟩ : ∃ y, d1[j]! = y := ⟨_, rfl⟩
      obtain ⟨z, c1, f1, c2, f2, c3, f3, c4, f4, sw1, sw2⟩ := LL.out.pair (i := i) (j := j) (by rw [D1.out]; omega) (by rw [D1.out]; omega) hx hy
      have S1 := Lib.hid sw1
      have S2 := Lib.hid sw2
      have RN := Lib.hid (RR.out.trans (rev_go hlt))
      clear hx hy sw1 sw2 RR
      go_wp2
      go_region
      all_goals
        go_wp2
        go_roundw
        case rel => exact ⟨i + 1, j - 1, Sort.swp d1 i j, by go_num, by go_num, by omega, by omega, RN.out, by first | exact S2.out | exact S1.out _⟩
        case measure => simp [intOf]; omega
    · have i1 : ¬ (i : Int) < (j : Int) := by omega
      have RE := Lib.hid (RR.out.trans (rev_end hlt))
      clear hlt
      go_wp2
      go_end0
      exact ⟨rfl, by rw [RE.out]; exact LL.out⟩

/-- The child that siftDown takes. -/
def kid (hi first root : Nat) (d : Array Nat) : Bool := decide (2 * root + 1 + 1 < hi) && ltN d[first + (2 * root + 1)]! d[first + (2 * root + 1) + 1]!
theorem sd_end {hi f r : Nat} {d : Array Nat} (h : 2 * r + 1 ≥ hi) : siftDown ltN hi f r d = d := by rw [siftDown, dif_pos h]
theorem sd_two {hi f r c : Nat} {d : Array Nat} (h : ¬ 2 * r + 1 ≥ hi) (hk : kid hi f r d = true) (hc : c = 2 * r + 2) :
    siftDown ltN hi f r d = if ltN d[f + r]! d[f + c]! = true then siftDown ltN hi f c (Sort.swp d (f + r) (f + c)) else d := by
  subst hc
  have h2 : 2 * r + 2 < hi := by unfold kid at hk; simp at hk; omega
  rw [siftDown, dif_neg h, if_pos (by unfold kid at hk; exact hk)]
  cases e : ltN d[f + r]! d[f + (2 * r + 2)]! with
  | true => simp [h2]
  | false => simp
theorem sd_one {hi f r c : Nat} {d : Array Nat} (h : ¬ 2 * r + 1 ≥ hi) (hk : kid hi f r d = false) (hc : c = 2 * r + 1) :
    siftDown ltN hi f r d = if ltN d[f + r]! d[f + c]! = true then siftDown ltN hi f c (Sort.swp d (f + r) (f + c)) else d := by
  subst hc
  rw [siftDown, dif_neg h, if_neg (by unfold kid at hk; rw [hk]; simp)]
  cases e : ltN d[f + r]! d[f + (2 * r + 1)]! with
  | true => simp
  | false => simp
set_option maxRecDepth 100000 in
set_option maxHeartbeats 16000000 in
theorem sift_c (g o n ca lo hi f : Nat) (d : Array Nat) (W : World) (hH : Holds w16 W g o d) (hn : d.size = n) (hbig : n ≤ 70368744177664) (hlo : lo ≤ n) (hf : f + hi ≤ n) :
    Calls Try.prog 58 #[.slice (some ⟨g, o, none⟩) n ca, .int .i64 lo, .int .i64 hi, .int .i64 f] W (fun e W' => e = .returned (.tuple #[]) ∧ Lay W g o d (siftDown ltN hi f lo d) W') := by
  obtain ⟨r, hr⟩ : ∃ r, r = siftDown ltN hi f lo d := ⟨_, rfl⟩
  rw [← hr]
  have HR := Lib.hid hr
  have L0 := Lib.hid (Lay.start hH)
  have HN := Lib.hid hn
  clear hH hn hr
  go_enter Try.func58, Try.ntmps58
  go_wp2
  go_loopw [8] (fun i_ V => ∃ (i : Nat) (d1 : Array Nat), i_ = .int .i64 i ∧ i ≤ n ∧ r = siftDown ltN hi f i d1 ∧ Lay W g o d d1 V) (fun i_ _ => n - (intOf i_).toNat)
  case atStart => exact ⟨lo, d, rfl, hlo, HR.out, L0.out⟩
  case round =>
    obtain ⟨i, d1, rfl, hi', hr, hL⟩ := hrel
    have RR := Lib.hid hr
    have LL := Lib.hid hL
    have D1 := Lib.hid (hL.size.trans HN.out)
    clear hr hL L0 HR
    obtain ⟨u, hu⟩ : ∃ u, u = 2 * i + 1 := ⟨_, rfl⟩
    have wa : IntKind.i64.wrap (2 * (i : Int)) = ((2 * i : Nat) : Int) := by rw [show 2 * (i : Int) = ((2 * i : Nat) : Int) by omega]; exact IntWalk.i64_in _ (by omega)
    obtain ⟨i2, hi2⟩ : ∃ i2, i2 = 2 * i := ⟨_, rfl⟩
    rw [← hi2] at wa
    have wb : IntKind.i64.wrap ((i2 : Int) + 1) = (u : Int) := by rw [show (i2 : Int) + 1 = (u : Int) by omega]; exact IntWalk.i64_in _ (by omega)
    by_cases hlt : u ≥ hi
    · have i1 : (hi : Int) ≤ (u : Int) := by omega
      have RE := Lib.hid (RR.out.trans (sd_end (by omega)))
      clear hlt RR hi2 hu
      go_wp2
      go_end0
      exact ⟨rfl, by rw [RE.out]; exact LL.out⟩
    · have i1 : ¬ (hi : Int) ≤ (u : Int) := by omega
      obtain ⟨v, hv⟩ : ∃ v, v = u + 1 := ⟨_, rfl⟩
      obtain ⟨p, hp⟩ : ∃ p, p = f + u := ⟨_, rfl⟩
      obtain ⟨q, hq⟩ : ∃ q, q = f + v := ⟨_, rfl⟩
      obtain ⟨s, hs⟩ : ∃ s, s = f + i := ⟨_, rfl⟩
      have wv : IntKind.i64.wrap ((u : Int) + 1) = (v : Int) := by rw [show (u : Int) + 1 = (v : Int) by omega]; exact IntWalk.i64_in _ (by omega)
      have wp : IntKind.i64.wrap ((f : Int) + (u : Int)) = (p : Int) := by rw [show (f : Int) + (u : Int) = (p : Int) by omega]; exact IntWalk.i64_in _ (by omega)
      have wq : IntKind.i64.wrap ((p : Int) + 1) = (q : Int) := by rw [show (p : Int) + 1 = (q : Int) by omega]; exact IntWalk.i64_in _ (by omega)
      have ws : IntKind.i64.wrap ((f : Int) + (i : Int)) = (s : Int) := by rw [show (f : Int) + (i : Int) = (s : Int) by omega]; exact IntWalk.i64_in _ (by omega)
      obtain ⟨k, hk⟩ : ∃ k, kid hi f i d1 = k := ⟨_, rfl⟩
      obtain ⟨c, hc⟩ : ∃ c, c = if k = true then v else u := ⟨_, rfl⟩
      have k1 : kid hi f i d1 = (decide (v < hi) && ltN d1[p]! d1[q]!) := by
        unfold kid
        rw [show 2 * i + 1 = u by omega, ← hv, ← hp, show p + 1 = q by omega]
      have KV := Lib.hid (show k = true → v < hi from fun h => by rw [h, k1] at hk; simp at hk; exact hk.1)
      have RC := Lib.hid (show r = if ltN d1[s]! d1[f + c]! = true then siftDown ltN hi f c (Sort.swp d1 s (f + c)) else d1 by
        rw [RR.out, hs]
        cases k with
        | true => exact sd_two (by omega) hk (by rw [hc, if_pos rfl]; omega)
        | false => exact sd_one (by omega) hk (by rw [hc, if_neg (by simp)]; omega))
      have CB := Lib.hid (show c < hi ∧ (c = u ∨ c = v) by
        cases k with
        | true => have := KV.out rfl; rw [if_pos rfl] at hc; omega
        | false => rw [if_neg (by simp)] at hc; omega)
      have U := Lib.hid hu
      have VV := Lib.hid hv
      have P := Lib.hid hp
      have QQ := Lib.hid hq
      have SS := Lib.hid hs
      have HC := Lib.hid hc
      have HK := Lib.hid (hk.symm.trans k1)
      obtain ⟨b1, hb1⟩ : ∃ b1, ltN d1[p]! d1[q]! = b1 := ⟨_, rfl⟩
      rw [hb1] at HK
      clear hk k1 hc hu hi2
      go_wp2
      go_cut [36] (fun t wx => t = .bool k ∧ Lay W g o d d1 wx)
      case first =>
        have c1 := (LL.out.at_ (j := p) (by rw [D1.out]; omega)).1
        unfold w16 at c1
        by_cases hvh : v < hi
        · have i3 : (v : Int) < (hi : Int) := by omega
          have i3b : decide ((v : Int) < (hi : Int)) = true := decide_eq_true i3
          have p1 : (p : Int) < (n : Int) := by omega
          have p2 : (q : Int) < (n : Int) := by omega
          have c2 := (LL.out.at_ (j := q) (by rw [D1.out]; omega)).1
          unfold w16 at c2
          have KB := Lib.hid (show k = b1 by rw [HK.out, decide_eq_true hvh, Bool.true_and])
          obtain ⟨x, hx⟩ : ∃ x, x = d1[p]! := ⟨_, rfl⟩
          obtain ⟨y, hy⟩ : ∃ y, y = d1[q]! := ⟨_, rfl⟩
          rw [← hx] at c1 hb1
          rw [← hy] at c2 hb1
          have HB := Lib.hid (show decide (x < y) = b1 from hb1)
          clear hx hy hb1 hvh hp hq hs hv hlt
          go_quiet ((go_at_call 53; exact Calls.quiet_of_same (less_c x y _ b1 HB.out)))
          go_wp2
          go_meet
          exact ⟨by rw [KB.out], by first | exact LL.out | exact LL.out.drewN _⟩
        · have i3 : ¬ (v : Int) < (hi : Int) := by omega
          have i3b : decide ((v : Int) < (hi : Int)) = false := decide_eq_false i3
          have KB := Lib.hid (show k = false by rw [HK.out, decide_eq_false hvh, Bool.false_and])
          clear hb1 hvh hp hq hs hv hlt
          go_quiet (fail)
          go_wp2
          go_meet
          exact ⟨by rw [KB.out], by first | exact LL.out | exact LL.out.drewN _⟩
      case rest =>
        obtain ⟨rfl, hL⟩ := hcut
        have L2 := Lib.hid hL
        clear hL hb1 LL
        obtain ⟨V, hV⟩ : ∃ V : World, V = wc := ⟨_, rfl⟩
        rw [← hV] at L2 ⊢
        clear hV
        have CV := Lib.hid (show c = v ∧ k = true ∨ c = u ∧ k = false by
          have := HC.out
          cases k with
          | true => exact .inl ⟨this.trans (if_pos rfl), rfl⟩
          | false => exact .inr ⟨this.trans (if_neg (by simp)), rfl⟩)
        go_upto_if 36 with fail
        go_cut [9] (fun t wx => t = .int .i64 c ∧ wx = V)
        case first =>
          rcases CV.out with ⟨ec, ek⟩ | ⟨ec, ek⟩
          all_goals
            subst ek
            clear hp hq hs hv hlt
            go_wp2
            go_meet
            exact ⟨by rw [ec], rfl⟩
        case rest =>
          obtain ⟨rfl, hw⟩ := hcut
          subst hw
          obtain ⟨e, he⟩ : ∃ e, e = f + c := ⟨_, rfl⟩
          have we : IntKind.i64.wrap ((f : Int) + (c : Int)) = (e : Int) := by rw [show (f : Int) + (c : Int) = (e : Int) by omega]; exact IntWalk.i64_in _ (by have := CB.out; omega)
          have s1 : (s : Int) < (n : Int) := by have := CB.out; have := U.out; omega
          have s2 : (e : Int) < (n : Int) := by have := CB.out; omega
          have s3 : s < n := by omega
          have s4 : e < n := by omega
          rw [← he] at RC
          obtain ⟨x, hx⟩ : ∃ x, d1[s]! = x := ⟨_, rfl⟩
          obtain ⟨y, hy⟩ : ∃ y, d1[e]! = y := ⟨_, rfl⟩
          obtain ⟨z, c1, f1, c2, f2, c3, f3, c4, f4, sw1, sw2⟩ := L2.out.pair (i := s) (j := e) (by rw [D1.out]; omega) (by rw [D1.out]; omega) hx hy
          have S1 := Lib.hid sw1
          rw [hx, hy] at RC
          obtain ⟨b2, hb2⟩ : ∃ b2, ltN x y = b2 := ⟨_, rfl⟩
          rw [hb2] at RC
          have HB := Lib.hid (show decide (x < y) = b2 from hb2)
          have CI := Lib.hid (show i < c ∧ c ≤ n by have := CB.out; have := U.out; omega)
          clear hx hy sw1 sw2 hb2 he hp hq hs hv hlt c4 f4
          cases b2 with
          | true =>
            have RN := Lib.hid (RC.out.trans (if_pos rfl))
            clear RC
            go_upto_region 5 with fail
            go_quiet ((go_at_call 53; exact Calls.quiet_of_same (less_c x y _ true HB.out)))
            go_wp2
            go_region
            all_goals
              go_wp2
              go_roundw
              case rel => exact ⟨c, Sort.swp d1 s e, by go_num, CI.out.2, RN.out, S1.out _⟩
              case measure => have := CI.out; simp [intOf]; omega
          | false =>
            have RN := Lib.hid (RC.out.trans (if_neg (by simp)))
            clear RC c3 f3 S1
            go_upto_region 5 with fail
            go_quiet ((go_at_call 53; exact Calls.quiet_of_same (less_c x y _ false HB.out)))
            go_wp2
            first | go_end0 | refine bodyPost_ret (results_none rfl _ _ _) rfl ?_
            exact ⟨rfl, by rw [RN.out]; first | exact L2.out | exact L2.out.drewN _⟩
end Go.Proofs.Yteggbepibfpjcaa.Qs
