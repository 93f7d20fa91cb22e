/-
  Package orset, the program: Put.
-/
import Derived.Test.YthebilmeehnkpaaOrPC
import Derived.Test.YthebilmeehnkpaaOrPutsP
import Derived.Deep.RegionHeld3
namespace Go.Proofs.Ythebilmeehnkpaa.Ors
set_option linter.unusedVariables false
set_option linter.unusedSimpArgs false
open Go.RowKit Mem Gt
open Jump (Gave equalZ_c)
open Go.Sort (grow alloc_eq_grow grow_grow)

abbrev bagO (H S : Option Addr) (nh ch ns cs : Nat) : Obj := .cells #[.slice H nh ch, .slice S ns cs] 25
abbrev zeroO : Obj := .cells #[.slice none 0 0, .slice none 0 0] 25
/-- No bag, behind the two stores. -/
theorem bad_out {V w2 w : World} (B2 : Below V.heap.size V w2) (hb : Below w2.heap.size w2 w) (e : Int) (g : Nat) (hg : V.heap.size ≤ g) :
    BOut ([], []) 0 0 e V (.returned (.tuple #[.agg #[.slice none 0 0, .slice none 0 0], .int .i64 e])) ((w.setCell ⟨g, 0, none⟩ (.slice none 0 0)).setCell ⟨g, 1, none⟩ (.slice none 0 0)) :=
  ⟨none, none, 0, 0, rfl, hb_zero _, ((B2.trans (hb.mono B2.size)).setCell (p := ⟨g, 0, none⟩) hg _).setCell (p := ⟨g, 1, none⟩) hg _⟩
theorem put_split {b : Bg} (hb : OkB b) {k : Nat} (hk : k < b.2.length) {elem : Int} {p : Nat} (h : Split b.1 (newTag b k elem) p) : insL b.1 p (newTag b k elem) = putH b k elem := by
  refine put_ins (fun j t hj ht => ?_) h.1 (fun t ht => ?_)
  · have := h.2.1 j t ht hj
    unfold Klt newTag at this
    simp only at this
    omega
  · have h1 := h.2.2 p t ht (Nat.le_refl _)
    have h2 := (hb.tags t (List.mem_of_getElem? ht)).2.2.2
    unfold Klt newTag at h1
    simp only at h1
    by_cases e : t.1 = (k : Int)
    · rw [e] at h2; omega
    · omega
theorem not_known {V : World} {g b o : Nat} {cs : Array Value} {t : TypeId} {x : Int} (h : Known V g t cs) (hc : V.cell? ⟨b, o, none⟩ = some (.int .i64 x)) (hn : ∀ (i : Nat) (v : Value), cs[i]? = some v → ∃ (A : Option Addr) (n c : Nat), v = .slice A n c) : b ≠ g := fun e => by
  subst e
  rw [h.cell] at hc
  obtain ⟨A, n, c, e⟩ := hn _ _ hc
  cases e
theorem none_slices (i : Nat) (v : Value) (h : (#[Value.slice none 0 0, Value.slice none 0 0] : Array Value)[i]? = some v) : ∃ (A : Option Addr) (n c : Nat), v = .slice A n c := by
  match i, h with
  | 0, h => injection h with h; exact ⟨_, _, _, h.symm⟩
  | 1, h => injection h with h; exact ⟨_, _, _, h.symm⟩
  | i + 2, h => simp at h
set_option maxRecDepth 100000 in
set_option maxHeartbeats 16000000 in
theorem put_bad (H S : Option Addr) (nh ch ns cs : Nat) (b : Bg) (who elem : Int) (V : World) (e : Int) (h : HB V H S nh ch ns cs b) (hw : (Lit.int .i64 who).wf = true) (he : putE b who = e) (h0 : e ≠ 0) :
    Calls Try.prog 10 #[.agg #[.slice H nh ch, .slice S ns cs], .int .i64 who, .int .i64 elem] V (BOut ([], []) 0 0 e V) := by
  have g1 := HG.new h rfl
  have b1 := low_lit V (bagO H S nh ch ns cs)
  obtain ⟨w1, hw1⟩ : ∃ w1, V.alloc (.cells #[.slice H nh ch, .slice S ns cs] 25) = w1 := ⟨_, rfl⟩
  rw [hw1] at g1 b1
  have g2 := g1.alloc zeroO
  have b2 := b1.trans ((low_lit w1 zeroO).mono b1.size)
  have kr := Known.made w1 tB #[.slice none 0 0, .slice none 0 0]
  have SW : V.heap.size ≤ w1.heap.size := b1.size
  obtain ⟨w2, hw2⟩ : ∃ w2, w1.alloc (.cells #[.slice none 0 0, .slice none 0 0] 25) = w2 := ⟨_, rfl⟩
  rw [hw2] at g2 b2 kr
  have G2 := Lib.hid g2
  have B2 := Lib.hid b2
  have KR := Lib.hid kr
  have LH := Lib.hid h.lenH
  have LS := Lib.hid h.lenS
  have CS := Lib.hid h.capS
  have bh := h.bh
  have bs := h.bs
  obtain ⟨r, hr⟩ : ∃ r, okB b = r := ⟨_, rfl⟩
  have R := Lib.hid (rightSpec H S nh ch ns cs b w2 r g2.2.2 hr)
  obtain ⟨z0, z1, -⟩ := g2
  clear h g1 b1 b2 kr
  cases r with
  | false =>
    obtain rfl : 1 = e := by rw [← he]; unfold putE; rw [if_pos hr]
    clear he hr
    go_enter Try.func10, Try.ntmps10
    go_wp2_with fail
    refine R.out.mono ?_
    rintro x w3 ⟨rfl, hb⟩
    have K3 := KR.out.later hb
    have B3 := Lib.hid hb
    have c0 := K3.cell 0
    have c1 := K3.cell 1
    have f0 := K3.free 0
    have f1 := K3.free 1
    have KK := Lib.hid ((K3.put 0 (.slice none 0 0)).put 1 (.slice none 0 0))
    simp at c0 c1
    clear hb K3 hw1 hw2 z0 z1
    go_wp2_with fail
    refine bodyPost_ret (v := .tuple #[.agg #[.slice none 0 0, .slice none 0 0], .int .i64 1]) ?_ rfl (bad_out B2.out B3.out 1 w1.heap.size SW)
    exact results_row2 rfl _ _ w1.heap.size tB _ (0, 0) _ rfl KK.out fieldsBag sizeBag rfl
  | true =>
    have ok := okB_iff.1 hr
    unfold putE at he
    rw [hr, if_neg (by decide), LS.out] at he
    by_cases hin : 0 ≤ who ∧ who < (ns : Int)
    · rw [if_neg (by omega)] at he
      obtain ⟨k, rfl⟩ : ∃ k : Nat, who = (k : Int) := ⟨who.toNat, by omega⟩
      have hk : k < ns := by omega
      have full : sawAt b.2 (k : Int) = 1099511627776 ∨ b.1.length = 400 := by
        rcases Classical.em (sawAt b.2 (k : Int) = 1099511627776 ∨ b.1.length = 400) with h1 | h1
        · exact h1
        · rw [if_neg h1] at he; exact absurd he.symm h0
      obtain rfl : 4 = e := by rw [← he, if_pos full]
      obtain ⟨te, hte⟩ : ∃ te, Ve.tickE b.2 (k : Int) = te := ⟨_, rfl⟩
      obtain ⟨tl, htl⟩ : ∃ tl, (if te = 0 then Ve.bump b.2 (k : Int).toNat else []) = tl := ⟨_, rfl⟩
      obtain ⟨tn, htn⟩ : ∃ tn, tl.length = tn := ⟨_, rfl⟩
      have TK := Lib.hid (fun (w : World) (hb : Below w2.heap.size w2 w) => Ve.tickSpec S b.2 ns cs (k : Int) w tl tn te LS.out CS.out (by omega) ((G2.out.below hb).2.2.saw) hw hte htl htn)
      have II := Lib.hid (fun w => isIndex_c S ns cs (k : Int) w true (decide_eq_true hin))
      have TE := Lib.hid (show te ≠ 0 ∨ nh = 400 by
        rcases full with h1 | h1
        · left
          rw [← hte]
          have hw0 : Ve.wrongE [b.2] = 0 := wrongU.2 ⟨ok.wide, by
            rw [List.all_eq_true]
            intro x hx
            have := ok.saw x hx
            unfold okX; rw [Bool.and_eq_true, decide_eq_true_eq, decide_eq_true_eq]; exact this⟩
          unfold Ve.tickE
          rw [if_neg (by rw [hw0]; decide), if_neg (by rw [LS.out]; omega), if_pos (by unfold sawAt at h1; exact h1)]
          decide
        · right
          rw [← LH.out]; exact h1)
      clear he hr ok full hte htl htn hin h0
      go_enter Try.func10, Try.ntmps10
      go_wp2_with fail
      refine R.out.mono ?_
      rintro x w3 ⟨rfl, hb⟩
      have B3 := Lib.hid hb
      clear hw1 hw2 z0 z1
      obtain ⟨z0, z1, -⟩ := G2.out.below hb
      clear hb
      go_wp2_with fail
      refine (II.out _).mono ?_
      rintro x w4 ⟨rfl, hw4⟩
      rw [hw4]
      clear hw4
      go_wp2_with fail
      refine (TK.out w3 B3.out).mono ?_
      rintro x w5 ⟨A5, c5, rfl, -, -, hb⟩
      have B5 := Lib.hid (B3.out.trans (hb.mono B3.out.size))
      have K5 := KR.out.later B5.out
      have c0 := K5.cell 0
      have c1 := K5.cell 1
      have f0 := K5.free 0
      have f1 := K5.free 1
      have KK := Lib.hid ((K5.put 0 (.slice none 0 0)).put 1 (.slice none 0 0))
      simp at c0 c1
      clear z0 z1 hb
      obtain ⟨z0, z1, -⟩ := G2.out.below B5.out
      clear K5
      by_cases ht : te = 0
      · subst ht
        obtain rfl : nh = 400 := by rcases TE.out with h | h; exact absurd rfl h; exact h
        go_wp2_with fail
        refine bodyPost_ret (v := .tuple #[.agg #[.slice none 0 0, .slice none 0 0], .int .i64 4]) ?_ rfl (bad_out B2.out B5.out 4 w1.heap.size SW)
        exact results_row2 rfl _ _ w1.heap.size tB _ (0, 0) _ rfl KK.out fieldsBag sizeBag rfl
      · have q1 : (te != 0) = true := by simpa using ht
        clear ht
        go_wp2_with fail
        refine bodyPost_ret (v := .tuple #[.agg #[.slice none 0 0, .slice none 0 0], .int .i64 4]) ?_ rfl (bad_out B2.out B5.out 4 w1.heap.size SW)
        exact results_row2 rfl _ _ w1.heap.size tB _ (0, 0) _ rfl KK.out fieldsBag sizeBag rfl
    · obtain rfl : 2 = e := by rw [← he, if_pos (by omega)]
      have II := Lib.hid (fun w => isIndex_c S ns cs who w false (decide_eq_false hin))
      clear he hr ok hin h0
      go_enter Try.func10, Try.ntmps10
      go_wp2_with fail
      refine R.out.mono ?_
      rintro x w3 ⟨rfl, hb⟩
      have B3 := Lib.hid hb
      have K3 := KR.out.later hb
      have c0 := K3.cell 0
      have c1 := K3.cell 1
      have f0 := K3.free 0
      have f1 := K3.free 1
      have KK := Lib.hid ((K3.put 0 (.slice none 0 0)).put 1 (.slice none 0 0))
      simp at c0 c1
      clear hw1 hw2 z0 z1 K3
      obtain ⟨z0, z1, -⟩ := G2.out.below hb
      clear hb
      go_wp2_with fail
      refine (II.out _).mono ?_
      rintro x w4 ⟨rfl, hw4⟩
      rw [hw4]
      clear hw4
      go_wp2_with fail
      refine bodyPost_ret (v := .tuple #[.agg #[.slice none 0 0, .slice none 0 0], .int .i64 2]) ?_ rfl (bad_out B2.out B3.out 2 w1.heap.size SW)
      exact results_row2 rfl _ _ w1.heap.size tB _ (0, 0) _ rfl KK.out fieldsBag sizeBag rfl
theorem four_off {w : World} {g q t : Nat} {x y0 y1 y2 : Value} (h : w.cell? ⟨q, 0, none⟩ = some x ∧ w.cell? ⟨t, 0, none⟩ = some y0 ∧ w.cell? ⟨t, 1, none⟩ = some y1 ∧ w.cell? ⟨t, 2, none⟩ = some y2) (h1 : q ≠ g) (h2 : t ≠ g) (u v : Value) :
    ((w.setCell ⟨g, 0, none⟩ u).setCell ⟨g, 1, none⟩ v).cell? ⟨q, 0, none⟩ = some x ∧ ((w.setCell ⟨g, 0, none⟩ u).setCell ⟨g, 1, none⟩ v).cell? ⟨t, 0, none⟩ = some y0 ∧ ((w.setCell ⟨g, 0, none⟩ u).setCell ⟨g, 1, none⟩ v).cell? ⟨t, 1, none⟩ = some y1 ∧ ((w.setCell ⟨g, 0, none⟩ u).setCell ⟨g, 1, none⟩ v).cell? ⟨t, 2, none⟩ = some y2 :=
  have f : ∀ {b o : Nat} {z : Value}, b ≠ g → w.cell? ⟨b, o, none⟩ = some z → ((w.setCell ⟨g, 0, none⟩ u).setCell ⟨g, 1, none⟩ v).cell? ⟨b, o, none⟩ = some z := fun hb hz =>
    far_cell (far_cell hz (fun e => hb (by injection e))) (fun e => hb (by injection e))
  ⟨f h1 h.1, f h2 h.2.1, f h2 h.2.2.1, f h2 h.2.2.2⟩
set_option maxRecDepth 100000 in
set_option maxHeartbeats 32000000 in
theorem put_ok_c (H S : Option Addr) (nh ch ns cs : Nat) (b : Bg) (k : Nat) (elem : Int) (V : World) (h : HB V H S nh ch ns cs b) (hw : (Lit.int .i64 (k : Int)).wf = true) (hf : Fit elem) (hP : Puts b k) :
    Calls Try.prog 10 #[.agg #[.slice H nh ch, .slice S ns cs], .int .i64 (k : Int), .int .i64 elem] V (BOut (putH b k elem, bumpS b.2 k) (nh + 1) ns 0 V) := by
  have g1 := HG.new h rfl
  have b1 := low_lit V (bagO H S nh ch ns cs)
  obtain ⟨w1, hw1⟩ : ∃ w1, V.alloc (.cells #[.slice H nh ch, .slice S ns cs] 25) = w1 := ⟨_, rfl⟩
  rw [hw1] at g1 b1
  have g2 := g1.alloc zeroO
  have b2 := b1.trans ((low_lit w1 zeroO).mono b1.size)
  have kr := Known.made w1 tB #[.slice none 0 0, .slice none 0 0]
  have SW := b1.size
  have GW := World.block_lt_of_cell? _ _ g1.1
  obtain ⟨w2, hw2⟩ : ∃ w2, w1.alloc (.cells #[.slice none 0 0, .slice none 0 0] 25) = w2 := ⟨_, rfl⟩
  rw [hw2] at g2 b2 kr
  have G2 := Lib.hid g2
  have B2 := Lib.hid b2
  have KR := Lib.hid kr
  have SK2 := Lib.hid (show w1.heap.size < w2.heap.size from kr.lt)
  have LH := Lib.hid h.lenH
  have LS := Lib.hid h.lenS
  have CS := Lib.hid h.capS
  have FH := Lib.hid h.fit
  have bh := h.bh
  have bs := h.bs
  have R := Lib.hid (rightSpec H S nh ch ns cs b w2 true g2.2.2 (okB_iff.2 hP.ok))
  obtain ⟨z0, z1, -⟩ := g2
  have hk : k < ns := by have := hP.lt; have := h.lenS; omega
  have hroom : nh < 400 := by have := hP.room; have := h.lenH; omega
  have hwide : ns ≤ 16 := by have := hP.ok.wide; have := h.lenS; omega
  have II := Lib.hid (fun w => isIndex_c S ns cs (k : Int) w true (decide_eq_true (show 0 ≤ (k : Int) ∧ (k : Int) < (ns : Int) by omega)))
  have ok := hP.ok
  have hfull := hP.full
  have hte : Ve.tickE b.2 (k : Int) = 0 := by
    have hw0 : Ve.wrongE [b.2] = 0 := wrongU.2 ⟨ok.wide, by
      rw [List.all_eq_true]
      intro x hx
      have := ok.saw x hx
      unfold okX; rw [Bool.and_eq_true, decide_eq_true_eq, decide_eq_true_eq]; exact this⟩
    unfold Ve.tickE
    rw [if_neg (by rw [hw0]; decide), if_neg (by rw [LS.out]; omega), if_neg (by unfold sawAt at hfull; omega)]
  have htl : (if (0 : Int) = 0 then Ve.bump b.2 (k : Int).toNat else []) = bumpS b.2 k := by rw [if_pos rfl]; rfl
  have TK := Lib.hid (fun (w : World) (hb : Below w2.heap.size w2 w) => Ve.tickSpec S b.2 ns cs (k : Int) w (bumpS b.2 k) ns 0 LS.out CS.out (by omega) ((G2.out.below hb).2.2.saw) hw hte htl (by rw [bump_len]; exact LS.out))
  obtain ⟨s0, hs0⟩ : ∃ s0, sawAt b.2 (k : Int) = s0 := ⟨_, rfl⟩
  have NT := Lib.hid (show newTag b k elem = ((k : Int), s0 + 1, elem) by unfold newTag; rw [hs0])
  have BG := Lib.hid (show (bumpS b.2 k)[k]? = some (s0 + 1) by
    unfold bumpS
    rw [Int.toNat_natCast, List.getElem?_set_self (by rw [LS.out]; exact hk), hs0])
  have PS := Lib.hid (fun p => put_split (elem := elem) (p := p) ok (by rw [LS.out]; exact hk))
  have RI := Lib.hid ok.rise
  clear h g1 b1 b2 kr hP ok hfull hte htl hs0 hw
  go_enter Try.func10, Try.ntmps10
  go_wp2_with fail
  refine R.out.mono ?_
  rintro x w3 ⟨rfl, hb⟩
  have B3 := Lib.hid hb
  clear hw1 hw2 z0 z1
  obtain ⟨z0, z1, -⟩ := G2.out.below hb
  clear hb
  go_wp2_with fail
  refine (II.out _).mono ?_
  rintro x w4 ⟨rfl, hw4⟩
  rw [hw4]
  clear hw4
  go_wp2_with fail
  refine (TK.out w3 B3.out).mono ?_
  rintro x w5 ⟨A5, c5, rfl, hc5, hr5, hb⟩
  have B5 := Lib.hid (B3.out.trans (hb.mono B3.out.size))
  have C5 := Lib.hid hc5
  have R5 := Lib.hid hr5
  have K5 := Lib.hid (KR.out.later B5.out)
  obtain ⟨b5, o5, rfl, h5, y5⟩ := int_at hr5 BG.out
  have N5 := Lib.hid (not_known K5.out y5 none_slices)
  clear z0 z1 hb hc5 hr5
  obtain ⟨z0, z1, -⟩ := G2.out.below B5.out
  have j1 : (k : Int) < (ns : Int) := by omega
  have j2 : ((nh : Int) == 400) = false := by simp; omega
  have j3 : ¬ nh = 400 := by omega
  have K6 := Known.made w5 tT #[.int .i64 (k : Int), .int .i64 (s0 + 1), .int .i64 elem]
  have L6 := low_lit w5 (.cells #[.int .i64 (k : Int), .int .i64 (s0 + 1), .int .i64 elem] tT)
  have G6 := (G2.out.below B5.out).alloc (.cells #[.int .i64 (k : Int), .int .i64 (s0 + 1), .int .i64 elem] tT)
  obtain ⟨w6, hw6⟩ : ∃ w6, w5.alloc (.cells #[.int .i64 (k : Int), .int .i64 (s0 + 1), .int .i64 elem] 37) = w6 := ⟨_, rfl⟩
  rw [hw6] at K6 L6 G6
  have HK6 := Lib.hid K6
  have HG6 := Lib.hid G6
  have HL6 := Lib.hid L6
  have BS := Lib.hid (bsearch_c H b.1 nh ch ((k : Int), s0 + 1, elem) w6 LH.out (by omega) G6.2.2.has RI.out)
  obtain ⟨t0, t1, -⟩ := G6
  have d0 := K6.cell 0
  have d1 := K6.cell 1
  have d2 := K6.cell 2
  simp at d0 d1 d2
  clear K6 L6
  go_wp2_with fail
  refine BS.out.mono ?_
  rintro x w7 ⟨p, hsp, rfl, hb⟩
  have PI := Lib.hid (show insL b.1 p ((k : Int), s0 + 1, elem) = putH b k elem by rw [← NT.out] at hsp ⊢; exact PS.out p hsp)
  have hat : p ≤ nh := by have := hsp.1; rw [LH.out] at this; exact this
  have B7 := Lib.hid ((HL6.out.trans (hb.mono HL6.out.size)))
  have G7 := Lib.hid (HG6.out.below hb)
  have K7 := Lib.hid (HK6.out.later hb)
  have S7 := Lib.hid (show w1.heap.size < w7.heap.size ∧ w5.heap.size < w7.heap.size from ⟨by have h1 := SK2.out; have h2 := B5.out.size; have h3 := B7.out.size; omega, by have h1 := HK6.out.lt; have h2 := hb.size; omega⟩)
  clear z0 z1 t0 t1 d0 d1 d2 hw6 hsp hb y5
  have K7R := Lib.hid (K5.out.later B7.out)
  have R7 := Lib.hid (R5.out.below B7.out)
  have RH := Lib.hid G7.out.2.2.has
  have SK := Lib.hid (show ∀ w, Below w7.heap.size w7 w → w.cell? ⟨V.heap.size, 0, none⟩ = some (.slice H nh ch) ∧ w.cell? ⟨w5.heap.size, 0, none⟩ = some (.int .i64 (k : Int)) ∧ w.cell? ⟨w5.heap.size, 1, none⟩ = some (.int .i64 (s0 + 1)) ∧ w.cell? ⟨w5.heap.size, 2, none⟩ = some (.int .i64 elem) from fun w hb => ⟨(G7.out.below hb).1, (K7.out.later hb).cell 0, (K7.out.later hb).cell 1, (K7.out.later hb).cell 2⟩)
  obtain ⟨z0, z1, -⟩ := G7.out
  have d0 := K7.out.cell 0
  have d1 := K7.out.cell 1
  have d2 := K7.out.cell 2
  simp at d0 d1 d2
  have C1 := Lib.hid (clone_tg H b.1 nh ch w7.drew LH.out (by omega) (RH.out.below (below_drew (Below.refl _ _))))
  have C2 := Lib.hid (clone_tg H b.1 nh ch (w7.alloc (.cells #[.int .i64 (k : Int), .int .i64 (s0 + 1), .int .i64 elem] 37)).drew LH.out (by omega) (RH.out.below (below_drew (low_lit w7 (.cells #[.int .i64 (k : Int), .int .i64 (s0 + 1), .int .i64 elem] 37)))))
  have KD := Lib.hid (below_drew (Below.refl w7.heap.size w7))
  have KL := Lib.hid (below_drew (low_lit w7 (.cells #[.int .i64 (k : Int), .int .i64 (s0 + 1), .int .i64 elem] 37)))
  have h400 : nh ≤ 400 := by omega
  clear j2 j3
  go_wp2_with fail
  go_upto_region 10 with fail
  go_region_held3 (fun w' => w'.cell? ⟨V.heap.size, 0, none⟩ = some (.slice H nh ch) ∧ w'.cell? ⟨w5.heap.size, 0, none⟩ = some (.int .i64 (k : Int)) ∧ w'.cell? ⟨w5.heap.size, 1, none⟩ = some (.int .i64 (s0 + 1)) ∧ w'.cell? ⟨w5.heap.size, 2, none⟩ = some (.int .i64 elem)) (first | (with_reducible exact SS.out) | (with_reducible exact SK.out _ KC.out) | (with_reducible exact SK.out _ KA2.out) | (with_reducible exact SK.out _ KA.out) | (with_reducible exact SK.out _ KB.out) | (with_reducible exact SK.out _ KD.out) | (with_reducible exact SK.out _ KL.out) | go_keep)
    (first
      | (go_at_call 19; refine C1.out.mono ?_; rintro e wA ⟨A7, c7, rfl, hT, hb⟩; have TA := Lib.hid hT; have KA := Lib.hid (show Below w7.heap.size w7 wA from below_undrewO hb); have KA2 := Lib.hid (show Below w7.heap.size w7 (wA.alloc (.cells #[.int .i64 (k : Int), .int .i64 (s0 + 1), .int .i64 elem] 37)) from KA.out.alloc KA.out.size _); have I1 := Lib.hid (insert_c w7.heap.size A7 b.1 nh c7 p wA.heap.size ((k : Int), s0 + 1, elem) #[.int .i64 (k : Int), .int .i64 (s0 + 1), .int .i64 elem] (wA.alloc (.cells #[.int .i64 (k : Int), .int .i64 (s0 + 1), .int .i64 elem] 37)) LH.out h400 hat (TA.out.alloc _) (Known.made wA tT _) rfl (fun g hg => by have := (TA.out.lt g (by rw [hg]; rfl)).2; omega) KA2.out.size); clear hT hb)
      | (go_at_call 19; refine C2.out.mono ?_; rintro e wB ⟨A7, c7, rfl, hT, hb⟩; have TB := Lib.hid (hT.down (B' := w7.heap.size) (by simp)); have KB := Lib.hid (show Below w7.heap.size w7 wB from KL.out.trans (hb.mono (by simp))); have I2 := Lib.hid (insert_c w7.heap.size A7 b.1 nh c7 p w7.heap.size ((k : Int), s0 + 1, elem) #[.int .i64 (k : Int), .int .i64 (s0 + 1), .int .i64 elem] wB LH.out h400 hat TB.out (show Known wB w7.heap.size tT _ from (Known.made w7 tT _).later (show Below (w7.alloc (.cells #[.int .i64 (k : Int), .int .i64 (s0 + 1), .int .i64 elem] 37)).heap.size (w7.alloc (.cells #[.int .i64 (k : Int), .int .i64 (s0 + 1), .int .i64 elem] 37)) wB from below_undrewO hb)) rfl (fun g hg => by have := (hT.lt g (by rw [hg]; rfl)).1; simp at this; omega) KB.out.size); clear hT hb)
      | (go_at_call 18; refine I1.out.mono ?_; rintro e wC ⟨A9, c9, rfl, hc9, hr9, hb9, ho9⟩; have KC := Lib.hid (KA2.out.trans hb9); have R9 := Lib.hid hr9; have O9 := Lib.hid ho9; have CC9 := Lib.hid hc9; have KWC := Lib.hid (K7R.out.later KC.out); have kw0 := KWC.out.cell 0; have kw1 := KWC.out.cell 1; have kf0 := KWC.out.free 0; have kf1 := KWC.out.free 1; simp at kw0 kw1; have SS := Lib.hid (four_off (SK.out _ KC.out) (Nat.ne_of_lt GW) (Nat.ne_of_gt (Nat.lt_of_lt_of_le SK2.out B5.out.size)) (.slice A9 (nh + 1) c9) (.slice (some ⟨b5, o5, none⟩) ns c5)); clear hc9 hr9 hb9 ho9)
      | (go_at_call 18; refine I2.out.mono ?_; rintro e wC ⟨A9, c9, rfl, hc9, hr9, hb9, ho9⟩; have KC := Lib.hid (KB.out.trans hb9); have R9 := Lib.hid hr9; have O9 := Lib.hid ho9; have CC9 := Lib.hid hc9; have KWC := Lib.hid (K7R.out.later KC.out); have kw0 := KWC.out.cell 0; have kw1 := KWC.out.cell 1; have kf0 := KWC.out.free 0; have kf1 := KWC.out.free 1; simp at kw0 kw1; have SS := Lib.hid (four_off (SK.out _ KC.out) (Nat.ne_of_lt GW) (Nat.ne_of_gt (Nat.lt_of_lt_of_le SK2.out B5.out.size)) (.slice A9 (nh + 1) c9) (.slice (some ⟨b5, o5, none⟩) ns c5)); clear hc9 hr9 hb9 ho9))
  all_goals
    go_wp2
    have KP := (KWC.out.put 0 (.slice A9 (nh + 1) c9)).put 1 (.slice (some ⟨b5, o5, none⟩) ns c5)
    refine bodyPost_ret (v := .tuple #[.agg #[.slice A9 (nh + 1) c9, .slice (some ⟨b5, o5, none⟩) ns c5], .int .i64 0]) ?_ rfl ⟨A9, some ⟨b5, o5, none⟩, c9, c5, rfl, ?_, ?_⟩
    · exact results_row2 rfl _ _ w1.heap.size tB _ (0, 0) _ rfl KP fieldsBag sizeBag rfl
    · refine ⟨by show (putH b k elem).length = nh + 1; rw [put_len, LH.out], by show (bumpS b.2 k).length = ns; rw [bump_len, LS.out], CC9.out, C5.out, by omega, by omega, ?_, ?_, fun t ht => ?_⟩
      · have h9 := R9.out
        rw [PI.out] at h9
        exact (h9.off (fun a ha => by have h1 := O9.out a ha; have h2 := S7.out.1; show a.block ≠ w1.heap.size; omega) _).off (fun a ha => by have h1 := O9.out a ha; have h2 := S7.out.1; show a.block ≠ w1.heap.size; omega) _
      · exact ((R7.out.below KC.out).off (fun a ha => by injection ha with ha; subst ha; exact N5.out) _).off (fun a ha => by injection ha with ha; subst ha; exact N5.out) _
      · rcases put_mem.1 ht with h | rfl
        · exact FH.out t h
        · exact hf
    · exact (((B2.out.trans (B5.out.mono B2.out.size)).trans ((B7.out.mono (Nat.le_trans B2.out.size B5.out.size)).trans (KC.out.mono (Nat.le_trans (Nat.le_trans B2.out.size B5.out.size) B7.out.size)))).setCell (p := ⟨w1.heap.size, 0, none⟩) SW _).setCell (p := ⟨w1.heap.size, 1, none⟩) SW _
theorem putSpec : PutSpec := fun H S nh ch ns cs b who elem V p mh ms e h hw hf he hp hmh hms => by
  by_cases h0 : e = 0
  · subst h0
    obtain ⟨k, rfl, hP⟩ := putE_zero he
    have e1 : putB b (k : Int) elem = (putH b k elem, bumpS b.2 k) := by unfold putB; rw [if_pos he]
    obtain rfl : (putH b k elem, bumpS b.2 k) = p := e1.symm.trans hp
    obtain rfl : nh + 1 = mh := by rw [← hmh, put_len, h.lenH]
    obtain rfl : ns = ms := by rw [← hms]; show ns = (bumpS b.2 k).length; rw [bump_len, h.lenS]
    exact put_ok_c H S nh ch ns cs b k elem V h hw hf hP
  · have e1 : putB b who elem = ([], []) := by unfold putB; rw [if_neg (by rw [he]; exact h0)]
    obtain rfl : ([], []) = p := e1.symm.trans hp
    obtain rfl : 0 = mh := hmh
    obtain rfl : 0 = ms := hms
    exact put_bad H S nh ch ns cs b who elem V e h hw he h0
end Go.Proofs.Ythebilmeehnkpaa.Ors
