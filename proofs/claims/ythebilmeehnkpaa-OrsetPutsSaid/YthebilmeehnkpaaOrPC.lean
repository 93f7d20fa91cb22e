/-
  Package orset, the program: slices.BinarySearchFunc of tags, New.
-/
import Derived.Test.YthebilmeehnkpaaOrPB
import Derived.Test.YthebilmeehnkpaaOrRef3
import Derived.Deep.DeepCutAuto
import Derived.Deep.CutRange
namespace Go.Proofs.Ythebilmeehnkpaa.Ors
set_option linter.unusedVariables false
set_option linter.unusedSimpArgs false
open Go.RowKit Mem Gt
open Jump (Gave equalZ_c)
open Go.Sort (grow alloc_eq_grow grow_grow)

/-! ### slices.BinarySearchFunc -/
/-- The first p are less than t, the others are not. -/
def Split (l : List Tg) (t : Tg) (p : Nat) : Prop := p ≤ l.length ∧ (∀ j x, l[j]? = some x → j < p → Klt x t) ∧ (∀ j x, l[j]? = some x → p ≤ j → ¬ Klt x t)
theorem rise_at {l : List Tg} (h : l.Pairwise Klt) {i j : Nat} {x y : Tg} (hi : l[i]? = some x) (hj : l[j]? = some y) (hij : i < j) : Klt x y := by
  obtain ⟨h1, rfl⟩ := List.getElem?_eq_some_iff.1 hi
  obtain ⟨h2, rfl⟩ := List.getElem?_eq_some_iff.1 hj
  exact List.pairwise_iff_getElem.1 h i j h1 h2 hij
theorem any_key {l : List Tg} {t : Tg} {p : Nat} (h : l.Pairwise Klt) (hs : Split l t p) : (∀ x, l[p]? = some x → l.any (sameKey t) = sameKey t x) ∧ (l.length = p → l.any (sameKey t) = false) := by
  have key : ∀ j x, l[j]? = some x → sameKey t x = true → j = p := fun j x hx hk => by
    unfold sameKey at hk
    rw [Bool.and_eq_true, decide_eq_true_eq, decide_eq_true_eq] at hk
    rcases Nat.lt_trichotomy j p with h1 | h1 | h1
    · have := hs.2.1 j x hx h1; unfold Klt at this; omega
    · exact h1
    · obtain ⟨y, hy⟩ : ∃ y, l[p]? = some y := ⟨_, List.getElem?_eq_getElem (by have := (List.getElem?_eq_some_iff.1 hx).1; omega)⟩
      have k1 := hs.2.2 p y hy (Nat.le_refl _)
      have k2 := rise_at h hy hx h1
      unfold Klt at k1 k2; omega
  refine ⟨fun x hx => ?_, fun hp => ?_⟩
  · cases hk : sameKey t x with
    | true => exact List.any_eq_true.2 ⟨x, List.mem_of_getElem? hx, hk⟩
    | false =>
      rw [List.any_eq_false]
      intro y hy hky
      obtain ⟨j, hj⟩ := List.mem_iff_getElem?.1 hy
      have e := key j y hj hky
      subst e
      rw [hx] at hj
      injection hj with hj
      subst hj
      rw [hk] at hky; cases hky
  · rw [List.any_eq_false]
    intro y hy hky
    obtain ⟨j, hj⟩ := List.mem_iff_getElem?.1 hy
    have e := key j y hj hky
    have := (List.getElem?_eq_some_iff.1 hj).1
    omega
def SearchOut (l : List Tg) (t : Tg) (W : World) (e : Ending) (W' : World) : Prop := ∃ p : Nat, Split l t p ∧ e = .returned (.tuple #[.int .i64 p, .bool (l.any (sameKey t))]) ∧ Below W.heap.size W W'
set_option maxRecDepth 100000 in
set_option maxHeartbeats 8000000 in
theorem bsearch_c (A : Option Addr) (l : List Tg) (n ca : Nat) (t : Tg) (W : World) (hn : l.length = n) (hbig : n ≤ 1099511627776) (hx : Reads W A (flat tgE l)) (hr : l.Pairwise Klt) :
    Calls Try.prog 30 #[.slice A n ca, .agg #[.int .i64 t.1, .int .i64 t.2.1, .int .i64 t.2.2], .func (.func 31) #[] #[]] W (SearchOut l t W) := by
  obtain ⟨t0, t1, t2⟩ := t
  have b1 := low_lit W (.cells #[.int .i64 t0, .int .i64 t1, .int .i64 t2] 37)
  have k1 := Known.made W tT #[.int .i64 t0, .int .i64 t1, .int .i64 t2]
  obtain ⟨w1, hw1⟩ : ∃ w1, W.alloc (.cells #[.int .i64 t0, .int .i64 t1, .int .i64 t2] 37) = w1 := ⟨_, rfl⟩
  rw [hw1] at b1 k1
  have B1 := Lib.hid b1
  have K1 := Lib.hid k1
  have X1 := Lib.hid (hx.below b1)
  have HN := Lib.hid hn
  have HR := Lib.hid hr
  have OB := Lib.hid (fun (x : Tg) (V : World) => order_b x (t0, t1, t2) V)
  clear hx hn hr b1 k1
  simp only
  go_enter Try.func30, Try.ntmps30
  go_wp2_with fail
  clear hw1
  go_loopw [9, 10] (fun s9 s10 wr => ∃ lo hi : Nat, s9 = .int .i64 lo ∧ s10 = .int .i64 hi ∧ lo ≤ hi ∧ hi ≤ n ∧ Below w1.heap.size w1 wr ∧ (∀ j x, l[j]? = some x → j < lo → Klt x (t0, t1, t2)) ∧ (∀ j x, l[j]? = some x → hi ≤ j → ¬ Klt x (t0, t1, t2))) (fun s9 s10 _ => (Go.RowKit.intOf s10).toNat - (Go.RowKit.intOf s9).toNat)
  case atStart => exact ⟨0, n, rfl, rfl, Nat.zero_le _, Nat.le_refl _, Below.refl _ _, fun j x _ h => absurd h (Nat.not_lt_zero _), fun j x hx h => by have := (List.getElem?_eq_some_iff.1 hx).1; have := HN.out; omega⟩
  case round =>
    obtain ⟨lo, hi, rfl, rfl, hlh, hin, hB, hI1, hI2⟩ := hrel
    have BB := Lib.hid hB
    have I1 := Lib.hid hI1
    have I2 := Lib.hid hI2
    have kk := K1.out.later hB
    have d0 := kk.cell 0
    have d1 := kk.cell 1
    have d2 := kk.cell 2
    simp at d0 d1 d2
    have XB := X1.out.below hB
    clear hI1 hI2 hB kk
    by_cases hlt : lo < hi
    · obtain ⟨q, hq⟩ : ∃ q, q = (lo + hi) / 2 := ⟨_, rfl⟩
      obtain ⟨⟨x0, x1, x2⟩, hx⟩ : ∃ x, l[q]? = some x := ⟨_, List.getElem?_eq_getElem (by rw [HN.out]; omega)⟩
      obtain ⟨b, o, rfl, _, c0, c1, c2⟩ := tg_at XB hx
      simp only at c0 c1 c2
      have HX := Lib.hid hx
      have J := OB.out (x0, x1, x2)
      have OL := ord_lt (x0, x1, x2) (t0, t1, t2)
      simp only at J
      obtain ⟨g, hg⟩ : ∃ g, ord (x0, x1, x2) (t0, t1, t2) = g := ⟨_, rfl⟩
      rw [hg] at J OL
      have JJ := Lib.hid J
      have HOL := Lib.hid OL
      have e1 : ((lo : Int) + (hi : Int)) / 2 = (q : Int) := by omega
      have e2 : IntKind.i64.wrap ((lo : Int) + (hi : Int)) = (lo : Int) + (hi : Int) := IntWalk.i64_in _ (by omega)
      have e3 : IntKind.u64.wrap ((lo : Int) + (hi : Int)) = (lo : Int) + (hi : Int) := (by rw [IntKind.wrap_u64]; omega)
      have e4 : IntKind.i64.wrap (q : Int) = (q : Int) := IntWalk.i64_in _ (by omega)
      have e5 : IntKind.u64.wrap (q : Int) = (q : Int) := (by rw [IntKind.wrap_u64]; omega)
      have e6 : IntKind.i64.wrap ((q : Int) + 1) = ((q + 1 : Nat) : Int) := by rw [show (q : Int) + 1 = ((q + 1 : Nat) : Int) by omega]; exact IntWalk.i64_in _ (by omega)
      have j1 : (q : Int) < (n : Int) := by omega
      have j2 : (lo : Int) < (hi : Int) := by omega
      have HQ := Lib.hid (show lo ≤ q ∧ q < hi by omega)
      have f0 : ∀ d os, (grow (redrawn wr d) os).cell? _ = _ := fun d os => cell_regrown d0 d os
      have f1 : ∀ d os, (grow (redrawn wr d) os).cell? _ = _ := fun d os => cell_regrown d1 d os
      have f2 : ∀ d os, (grow (redrawn wr d) os).cell? _ = _ := fun d os => cell_regrown d2 d os
      have f3 : ∀ d os, (grow (redrawn wr d) os).cell? _ = _ := fun d os => cell_regrown c0 d os
      have f4 : ∀ d os, (grow (redrawn wr d) os).cell? _ = _ := fun d os => cell_regrown c1 d os
      have f5 : ∀ d os, (grow (redrawn wr d) os).cell? _ = _ := fun d os => cell_regrown c2 d os
      clear hx hg J OL hq XB
      go_upto_region 5 with fail
      refine wp_region_quiet_below (by kernel_rfl) (by kernel_rfl) ?_
      repeat (go_big_quiet_step (first
        | (go_at_call 31; refine Calls.regrown_of (JJ.out _))
        | (go_at_fn 31; refine Calls.regrown_of (JJ.out _))))
      refine wpQuiet_nil ?_
      intro _ hw'
      obtain ⟨⟨dd, os⟩, hw''⟩ := hw'
      obtain ⟨w10, hw10⟩ : ∃ w10, grow (redrawn wr dd) os = w10 := ⟨_, rfl⟩
      have hb10 : Below wr.heap.size wr w10 := hw10 ▸ below_regrown wr dd os
      subst hw''
      clear f0 f1 f2 f3 f4 f5
      simp only [hw10]
      have B5 := Lib.hid (BB.out.trans (hb10.mono BB.out.size))
      clear hw10 hb10 d0 d1 d2 c0 c1 c2
      by_cases hlz : g < 0
      · have E := Lib.hid (show Klt (x0, x1, x2) (t0, t1, t2) by rw [← klt_iff, ← HOL.out]; exact decide_eq_true hlz)
        have N1 := Lib.hid (show ∀ j x, l[j]? = some x → j < q + 1 → Klt x (t0, t1, t2) from fun j x hj h => by
          by_cases e : j = q
          · subst e
            rw [HX.out] at hj
            injection hj with hj
            rw [← hj]; exact E.out
          · exact (rise_at HR.out hj HX.out (by omega)).trans E.out)
        go_wp2_with fail
        go_roundw
        case rel => exact ⟨q + 1, hi, by first | rfl | go_num, rfl, by have := HQ.out; omega, hin, B5.out, N1.out, I2.out⟩
        case measure => have := HQ.out; simp [Go.RowKit.intOf]; omega
      · have E := Lib.hid (show ¬ Klt (x0, x1, x2) (t0, t1, t2) by
          rw [← klt_iff, ← HOL.out]; simpa using hlz)
        have N2 := Lib.hid (show ∀ j x, l[j]? = some x → q ≤ j → ¬ Klt x (t0, t1, t2) from fun j x hj h => by
          by_cases e : j = q
          · subst e
            rw [HX.out] at hj
            injection hj with hj
            rw [← hj]; exact E.out
          · exact fun k => E.out ((rise_at HR.out HX.out hj (by omega)).trans k))
        go_wp2_with fail
        go_roundw
        case rel => exact ⟨lo, q, rfl, rfl, by have := HQ.out; omega, by have := HQ.out; omega, B5.out, I1.out, N2.out⟩
        case measure => have := HQ.out; simp [Go.RowKit.intOf]; omega
    · obtain rfl : lo = hi := by omega
      have SP := Lib.hid (show Split l (t0, t1, t2) lo from ⟨by rw [HN.out]; exact hin, I1.out, I2.out⟩)
      clear hlt hlh
      by_cases hl2 : lo < n
      · obtain ⟨⟨x0, x1, x2⟩, hx⟩ : ∃ x, l[lo]? = some x := ⟨_, List.getElem?_eq_getElem (by rw [HN.out]; omega)⟩
        obtain ⟨b, o, rfl, _, c0, c1, c2⟩ := tg_at XB hx
        simp only at c0 c1 c2
        have J := OB.out (x0, x1, x2)
        simp only at J
        have OZ := ord_zero (x0, x1, x2) (t0, t1, t2)
        have AK := (any_key HR.out SP.out).1 _ hx
        obtain ⟨g, hg⟩ : ∃ g, ord (x0, x1, x2) (t0, t1, t2) = g := ⟨_, rfl⟩
        rw [hg] at J OZ
        have JJ := Lib.hid J
        obtain ⟨r, hr⟩ : ∃ r, decide (g = 0) = r := ⟨_, rfl⟩
        have FIN := Lib.hid (show l.any (sameKey (t0, t1, t2)) = r by rw [AK, ← OZ, hr])
        have j1 : (lo : Int) < (n : Int) := by omega
        have j2 : decide ((lo : Int) < (n : Int)) = true := decide_eq_true j1
        have j3 : decide (lo < n) = true := decide_eq_true hl2
        have j4 : (g == 0) = r := by rw [← hr]; by_cases e : g = 0 <;> simp [e]
        have f0 : ∀ d os, (grow (redrawn wr d) os).cell? _ = _ := fun d os => cell_regrown d0 d os
        have f1 : ∀ d os, (grow (redrawn wr d) os).cell? _ = _ := fun d os => cell_regrown d1 d os
        have f2 : ∀ d os, (grow (redrawn wr d) os).cell? _ = _ := fun d os => cell_regrown d2 d os
        have f3 : ∀ d os, (grow (redrawn wr d) os).cell? _ = _ := fun d os => cell_regrown c0 d os
        have f4 : ∀ d os, (grow (redrawn wr d) os).cell? _ = _ := fun d os => cell_regrown c1 d os
        have f5 : ∀ d os, (grow (redrawn wr d) os).cell? _ = _ := fun d os => cell_regrown c2 d os
        clear hx hg J OZ AK XB hr
        go_upto_region 8 with fail
        refine wp_region_quiet_below (by kernel_rfl) (by kernel_rfl) ?_
        repeat (go_big_quiet_step (first
          | (go_at_call 31; refine Calls.regrown_of (JJ.out _))
          | (go_at_fn 31; refine Calls.regrown_of (JJ.out _))))
        refine wpQuiet_nil ?_
        intro _ hw'
        obtain ⟨⟨dd, os⟩, hw''⟩ := hw'
        obtain ⟨w10, hw10⟩ : ∃ w10, grow (redrawn wr dd) os = w10 := ⟨_, rfl⟩
        have hb10 : Below wr.heap.size wr w10 := hw10 ▸ below_regrown wr dd os
        subst hw''
        clear f0 f1 f2 f3 f4 f5
        simp only [hw10]
        have B5 := Lib.hid (BB.out.trans (hb10.mono BB.out.size))
        clear hw10 hb10 d0 d1 d2 c0 c1 c2
        go_wp2_with fail
        go_ret2
        exact ⟨lo, SP.out, by rw [FIN.out]; rfl, B1.out.trans (B5.out.mono B1.out.size)⟩
      · obtain rfl : lo = n := by omega
        have FIN := Lib.hid ((any_key HR.out SP.out).2 HN.out)
        have j1 : ¬ (lo : Int) < (lo : Int) := by omega
        clear XB hl2
        go_upto_region 8 with fail
        go_quiet (fail)
        go_wp2_with fail
        go_ret2
        exact ⟨lo, SP.out, by rw [FIN.out]; rfl, B1.out.trans (below_drewN (BB.out.mono B1.out.size) _)⟩
/-! ### New -/
theorem hb_zero (V : World) : HB V none none 0 0 0 0 ([], []) := ⟨rfl, rfl, by simp, by simp, by omega, by omega, Reads.nil, Reads.nil, fun t h => by simp at h⟩
theorem hb_saw (V : World) (m : Nat) (hm : m ≤ 16) : HB (V.alloc (.cells (Array.replicate m (.int .i64 0)) 3)) none (some ⟨V.heap.size, 0, none⟩) 0 0 m m ([], List.replicate m 0) :=
  ⟨rfl, by simp, by simp, ⟨Nat.le_refl _, by omega⟩, by omega, by omega, Reads.nil, (Ve.IC.new V m).reads, fun t h => by simp at h⟩
set_option maxRecDepth 100000 in
set_option maxHeartbeats 8000000 in
theorem new_bad (many : Int) (V : World) (h : many < 1 ∨ 16 < many) : Calls Try.prog 9 #[.int .i64 many] V (BOut ([], []) 0 0 2 V) := by
  have KK := Lib.hid (Known.made V tB #[.slice none 0 0, .slice none 0 0])
  have B0 := Lib.hid (low_lit V (.cells #[.slice none 0 0, .slice none 0 0] 25))
  by_cases h1 : many < 1
  · clear h
    go_enter Try.func9, Try.ntmps9
    go_wp2
    refine bodyPost_ret (v := .tuple #[.agg #[.slice none 0 0, .slice none 0 0], .int .i64 2]) ?_ rfl ⟨none, none, 0, 0, rfl, hb_zero _, B0.out⟩
    exact results_row2 rfl _ _ V.heap.size tB _ (0, 0) _ rfl KK.out fieldsBag sizeBag rfl
  · have h2 : 16 < many := by omega
    clear h
    go_enter Try.func9, Try.ntmps9
    go_wp2
    refine bodyPost_ret (v := .tuple #[.agg #[.slice none 0 0, .slice none 0 0], .int .i64 2]) ?_ rfl ⟨none, none, 0, 0, rfl, hb_zero _, B0.out⟩
    exact results_row2 rfl _ _ V.heap.size tB _ (0, 0) _ rfl KK.out fieldsBag sizeBag rfl
set_option maxRecDepth 100000 in
set_option maxHeartbeats 8000000 in
theorem new_ok (m : Nat) (V : World) (h1 : 1 ≤ m) (h2 : m ≤ 16) : Calls Try.prog 9 #[.int .i64 m] V (BOut ([], List.replicate m 0) 0 m 0 V) := by
  have i1 : ¬ (m : Int) < 1 := by omega
  have i2 : ¬ (16 : Int) < (m : Int) := by omega
  have mk := fun w => Ve.make_ints m (by omega) w
  have KK := Lib.hid ((Known.made V tB #[.slice none 0 0, .slice (some ⟨V.heap.size + 1, 0, none⟩) m m]).later (low_lit (V.alloc (.cells #[.slice none 0 0, .slice (some ⟨V.heap.size + 1, 0, none⟩) m m] tB)) (.cells (Array.replicate m (.int .i64 0)) 3)))
  have hb := hb_saw (V.alloc (.cells #[.slice none 0 0, .slice (some ⟨V.heap.size + 1, 0, none⟩) m m] tB)) m h2
  rw [show (V.alloc (.cells #[.slice none 0 0, .slice (some ⟨V.heap.size + 1, 0, none⟩) m m] tB)).heap.size = V.heap.size + 1 by simp] at hb
  have HB1 := Lib.hid hb
  have B0 := Lib.hid ((low_lit V (.cells #[.slice none 0 0, .slice (some ⟨V.heap.size + 1, 0, none⟩) m m] tB)).alloc (by simp) (.cells (Array.replicate m (.int .i64 0)) 3))
  clear hb
  go_enter Try.func9, Try.ntmps9
  go_wp2
  refine bodyPost_ret (v := .tuple #[.agg #[.slice none 0 0, .slice (some ⟨V.heap.size + 1, 0, none⟩) m m], .int .i64 0]) ?_ rfl ⟨none, _, 0, m, rfl, HB1.out, B0.out⟩
  exact results_row2 rfl _ _ V.heap.size tB _ (0, 0) _ rfl KK.out fieldsBag sizeBag rfl
theorem newSpec : NewSpec := fun many V b nh ns e hw he hb h1 h2 => by
  by_cases hm : many < 1 ∨ 16 < many
  · have e1 : newE many = 2 := by unfold newE; rw [if_pos hm]
    have e2 : newB many = ([], []) := by unfold newB; rw [if_neg (by rw [e1]; decide)]
    obtain rfl : 2 = e := e1.symm.trans he
    obtain rfl : ([], []) = b := e2.symm.trans hb
    obtain rfl : 0 = nh := h1
    obtain rfl : 0 = ns := h2
    exact new_bad many V hm
  · have e1 : newE many = 0 := by unfold newE; rw [if_neg hm]
    obtain ⟨m, rfl⟩ : ∃ m : Nat, many = (m : Int) := ⟨many.toNat, by omega⟩
    have e2 : newB (m : Int) = ([], List.replicate m 0) := by unfold newB; rw [if_pos e1, Int.toNat_natCast]
    obtain rfl : 0 = e := e1.symm.trans he
    obtain rfl : ([], List.replicate m 0) = b := e2.symm.trans hb
    obtain rfl : 0 = nh := h1
    obtain rfl : m = ns := by rw [← h2]; simp
    exact new_ok m V (by omega) (by omega)
end Go.Proofs.Ythebilmeehnkpaa.Ors
