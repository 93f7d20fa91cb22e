/-
  The document's own answer to Back, by big numbers: FBack.
-/
import Derived.Test.YtlcbchpijijilaaStB
import Derived.Test.YtlcbchpijijilaaBigCalc
namespace Go.Proofs.Ytlcbchpijijilaa.Stripe
set_option linter.unusedVariables false
open Go.RowKit Mem Big

/-- FBack's answer. -/
def fbackIs (n : Nat) : Int := if n ≤ 1099511627776 then n else -1
theorem fback_bd {U W D o f : Nat} (h2 : U ≤ 1048576) (h3 : 1 ≤ W) (h4 : W ≤ 100) (h6 : D ≤ 1024) (ho : o ≤ 1099511627776) (hf : f ≤ 1099511627776) :
    o / W * D ≤ 1125899906842624 ∧ o / W * D + f / U ≤ 1125899906842624 + 1099511627776 ∧ (o / W * D + f / U) * W ≤ 112699941846188851200 ∧ ((o / W * D + f / U) * W + o % W) * U ≤ 118174456349589000000000000 := by
  have b1 : o / W ≤ o := Nat.div_le_self _ _
  have b2 : f / U ≤ f := Nat.div_le_self _ _
  have b3 : o % W < W := Nat.mod_lt _ h3
  have k1 : o / W * D ≤ 1099511627776 * 1024 := mul_le (by omega) (by omega)
  have k2 : (o / W * D + f / U) * W ≤ (1125899906842624 + 1099511627776) * 100 := mul_le (by omega) (by omega)
  have k3 : ((o / W * D + f / U) * W + o % W) * U ≤ (112699941846188851200 + 100) * 1048576 := mul_le (by omega) (by omega)
  omega
set_option maxRecDepth 100000 in
set_option maxHeartbeats 8000000 in
theorem fback_c (U W D o f : Nat) (V : World) (h : Ok U W D) (ho : o ≤ 1099511627776) (hf : f ≤ 1099511627776) :
    Calls Try.prog 14 #[.agg #[.int .i64 U, .int .i64 W, .int .i64 D], .int .i64 o, .int .i64 f] V (Gave (.int .i64 (fbackIs (bk U W D o f))) V) := by
  obtain ⟨⟨h1, h2⟩, ⟨h3, h4⟩, h5, h6⟩ := h
  have bd := fback_bd (U := U) (D := D) h2 h3 h4 h6 ho hf
  have hE := Lib.hid (show bk U W D o f = ((o / W * D + f / U) * W + o % W) * U + f % U from rfl)
  have q1 := @divs o W
  have m1 := @mods o W
  have q2 := @divs f U
  have m2 := @mods f U
  have b1 : o / W ≤ o := Nat.div_le_self _ _
  have b2 : f / U ≤ f := Nat.div_le_self _ _
  have b3 : o % W < W := Nat.mod_lt _ h3
  have b4 : f % U < U := Nat.mod_lt _ h1
  have t1 := @tdivs o W
  have t2 := @tmods o W
  have t3 := @tdivs f U
  have t4 := @tmods f U
  generalize hs : o / W = s at *
  generalize hc : o % W = c at *
  generalize hd : f / U = d at *
  generalize hb : f % U = b at *
  clear hs hc hd hb
  have n1 : ((U : Int) == 0) = false := by simp; omega
  have n2 : ((W : Int) == 0) = false := by simp; omega
  have N := fun n (hn : n < 9223372036854775808) V => newInt_c n hn V
  have HN := Lib.hid N
  have BD := Lib.hid bd
  clear N bd
  go_enter Try.func14, Try.ntmps14
  go_wp2_with fail
  refine (HN.out s (by omega) _).mono ?_
  rintro e w1 ⟨p, rfl, hp, hb, hn⟩
  have A1 := Lib.hid (show At (V.alloc (.cells #[.int .i64 U, .int .i64 W, .int .i64 D] 23)) p s w1 from ⟨hp, hb, hn⟩)
  clear hp hb hn
  obtain ⟨c0, c1, c2⟩ := box_cells A1.out.2.1
  go_wp2_with fail
  refine (HN.out D (by omega) _).mono ?_
  intro e w2 hf
  obtain ⟨q1, rfl, hA, hq⟩ := A1.out.new hf
  have B1 := Lib.hid hA
  have Q1 := Lib.hid hq
  clear hf hA hq c0 c1 c2
  go_wp2_with fail
  refine (mul_c p p q1 (s) D _ B1.out.2.2.slot B1.out.2.2 Q1.out (Nat.le_trans (Nat.add_le_add (small_len (by have := BD.out; omega)) (small_len (by omega))) (by omega))).mono ?_
  intro e w3 ht
  obtain ⟨rfl, hA⟩ := B1.out.to ht
  have A2 := Lib.hid hA
  clear ht hA B1 Q1 A1
  obtain ⟨c0, c1, c2⟩ := box_cells A2.out.2.1
  go_wp2_with fail
  refine (HN.out d (by omega) _).mono ?_
  intro e w4 hf
  obtain ⟨q2, rfl, hA, hq⟩ := A2.out.new hf
  have B2 := Lib.hid hA
  have Q2 := Lib.hid hq
  clear hf hA hq c0 c1 c2
  go_wp2_with fail
  refine (add_c p p q2 (s * D) d _ B2.out.2.2.slot B2.out.2.2 Q2.out (Nat.le_trans (Nat.add_le_add_right (small_len (by have := BD.out; omega)) 1) (by omega)) (Nat.le_trans (Nat.add_le_add_right (small_len (by omega)) 1) (by omega))).mono ?_
  intro e w5 ht
  obtain ⟨rfl, hA⟩ := B2.out.to ht
  have A3 := Lib.hid hA
  clear ht hA B2 Q2 A2
  obtain ⟨c0, c1, c2⟩ := box_cells A3.out.2.1
  go_wp2_with fail
  refine (HN.out W (by omega) _).mono ?_
  intro e w6 hf
  obtain ⟨q3, rfl, hA, hq⟩ := A3.out.new hf
  have B3 := Lib.hid hA
  have Q3 := Lib.hid hq
  clear hf hA hq c0 c1 c2
  go_wp2_with fail
  refine (mul_c p p q3 (s * D + d) W _ B3.out.2.2.slot B3.out.2.2 Q3.out (Nat.le_trans (Nat.add_le_add (small_len (by have := BD.out; omega)) (small_len (by omega))) (by omega))).mono ?_
  intro e w7 ht
  obtain ⟨rfl, hA⟩ := B3.out.to ht
  have A4 := Lib.hid hA
  clear ht hA B3 Q3 A3
  obtain ⟨c0, c1, c2⟩ := box_cells A4.out.2.1
  go_wp2_with fail
  refine (HN.out c (by omega) _).mono ?_
  intro e w8 hf
  obtain ⟨q4, rfl, hA, hq⟩ := A4.out.new hf
  have B4 := Lib.hid hA
  have Q4 := Lib.hid hq
  clear hf hA hq c0 c1 c2
  go_wp2_with fail
  refine (add_c p p q4 ((s * D + d) * W) c _ B4.out.2.2.slot B4.out.2.2 Q4.out (Nat.le_trans (Nat.add_le_add_right (small_len (by have := BD.out; omega)) 1) (by omega)) (Nat.le_trans (Nat.add_le_add_right (small_len (by omega)) 1) (by omega))).mono ?_
  intro e w9 ht
  obtain ⟨rfl, hA⟩ := B4.out.to ht
  have A5 := Lib.hid hA
  clear ht hA B4 Q4 A4
  obtain ⟨c0, c1, c2⟩ := box_cells A5.out.2.1
  go_wp2_with fail
  refine (HN.out U (by omega) _).mono ?_
  intro e w10 hf
  obtain ⟨q5, rfl, hA, hq⟩ := A5.out.new hf
  have B5 := Lib.hid hA
  have Q5 := Lib.hid hq
  clear hf hA hq c0 c1 c2
  go_wp2_with fail
  refine (mul_c p p q5 ((s * D + d) * W + c) U _ B5.out.2.2.slot B5.out.2.2 Q5.out (Nat.le_trans (Nat.add_le_add (small_len (by have := BD.out; omega)) (small_len (by omega))) (by omega))).mono ?_
  intro e w11 ht
  obtain ⟨rfl, hA⟩ := B5.out.to ht
  have A6 := Lib.hid hA
  clear ht hA B5 Q5 A5
  obtain ⟨c0, c1, c2⟩ := box_cells A6.out.2.1
  go_wp2_with fail
  refine (HN.out b (by omega) _).mono ?_
  intro e w12 hf
  obtain ⟨q6, rfl, hA, hq⟩ := A6.out.new hf
  have B6 := Lib.hid hA
  have Q6 := Lib.hid hq
  clear hf hA hq c0 c1 c2
  go_wp2_with fail
  refine (add_c p p q6 (((s * D + d) * W + c) * U) b _ B6.out.2.2.slot B6.out.2.2 Q6.out (Nat.le_trans (Nat.add_le_add_right (small_len (by have := BD.out; omega)) 1) (by omega)) (Nat.le_trans (Nat.add_le_add_right (small_len (by omega)) 1) (by omega))).mono ?_
  intro e w13 ht
  obtain ⟨rfl, hA⟩ := B6.out.to ht
  have A7 := Lib.hid hA
  clear ht hA B6 Q6 A6
  have BD2 := Lib.hid (show ((s * D + d) * W + c) * U + b < 340282366920938463463374607431768211456 by have := BD.out; omega)
  by_cases k1 : ((s * D + d) * W + c) * U + b ≤ 1099511627776
  · have FI := Lib.hid (show fbackIs (bk U W D o f) = ((((s * D + d) * W + c) * U + b : Nat) : Int) by unfold fbackIs; rw [hE.out, if_pos k1])
    by_cases k2 : ((s * D + d) * W + c) * U + b = 1099511627776
    · have CM := Lib.hid (show cmpInt (((s * D + d) * W + c) * U + b) 1099511627776 = 0 from cmp_eq k2)
      clear k2
      go_wp2_with fail
      refine (HN.out 1099511627776 (by omega) _).mono ?_
      intro e w14 hf
      obtain ⟨q7, rfl, hA, hq⟩ := A7.out.new hf
      have B7 := Lib.hid hA
      have Q7 := Lib.hid hq
      clear hf hA hq A7
      go_wp2_with fail
      refine (cmp_w p q7 (((s * D + d) * W + c) * U + b) 1099511627776 _ B7.out.2.2 Q7.out (Nat.le_trans (small_len (by have := BD.out; omega)) (by omega)) (Nat.le_trans (small_len (by omega)) (by omega))).mono ?_
      rintro e w15 ⟨rfl, hb15⟩
      rw [CM.out]
      have L15 := Lib.hid (B7.out.2.1.trans (hb15.mono B7.out.2.1.size))
      have N15 := Lib.hid (B7.out.2.2.below hb15)
      clear hb15
      go_wp2_with fail
      refine (int64_c p (((s * D + d) * W + c) * U + b) _ N15.out (by omega)).mono ?_
      rintro e w' ⟨rfl, rfl⟩
      go_wp2
      go_ret
      exact ⟨by rw [FI.out]; rfl, below_box L15.out⟩
    · have CM := Lib.hid (show cmpInt (((s * D + d) * W + c) * U + b) 1099511627776 = -1 from cmp_lt (by omega))
      go_wp2_with fail
      refine (HN.out 1099511627776 (by omega) _).mono ?_
      intro e w14 hf
      obtain ⟨q7, rfl, hA, hq⟩ := A7.out.new hf
      have B7 := Lib.hid hA
      have Q7 := Lib.hid hq
      clear hf hA hq A7
      go_wp2_with fail
      refine (cmp_w p q7 (((s * D + d) * W + c) * U + b) 1099511627776 _ B7.out.2.2 Q7.out (Nat.le_trans (small_len (by have := BD.out; omega)) (by omega)) (Nat.le_trans (small_len (by omega)) (by omega))).mono ?_
      rintro e w15 ⟨rfl, hb15⟩
      rw [CM.out]
      have L15 := Lib.hid (B7.out.2.1.trans (hb15.mono B7.out.2.1.size))
      have N15 := Lib.hid (B7.out.2.2.below hb15)
      clear hb15
      go_wp2_with fail
      refine (int64_c p (((s * D + d) * W + c) * U + b) _ N15.out (by omega)).mono ?_
      rintro e w' ⟨rfl, rfl⟩
      go_wp2
      go_ret
      exact ⟨by rw [FI.out]; rfl, below_box L15.out⟩
  · have FI := Lib.hid (show fbackIs (bk U W D o f) = -1 by unfold fbackIs; rw [hE.out, if_neg k1])
    have CM := Lib.hid (show cmpInt (((s * D + d) * W + c) * U + b) 1099511627776 = 1 from cmp_gt (by omega))
    go_wp2_with fail
    refine (HN.out 1099511627776 (by omega) _).mono ?_
    intro e w14 hf
    obtain ⟨q7, rfl, hA, hq⟩ := A7.out.new hf
    have B7 := Lib.hid hA
    have Q7 := Lib.hid hq
    clear hf hA hq A7
    go_wp2_with fail
    refine (cmp_w p q7 (((s * D + d) * W + c) * U + b) 1099511627776 _ B7.out.2.2 Q7.out (Nat.le_trans (small_len (by have := BD.out; omega)) (by omega)) (Nat.le_trans (small_len (by omega)) (by omega))).mono ?_
    rintro e w15 ⟨rfl, hb15⟩
    rw [CM.out]
    have L15 := Lib.hid (B7.out.2.1.trans (hb15.mono B7.out.2.1.size))
    have N15 := Lib.hid (B7.out.2.2.below hb15)
    clear hb15
    go_wp2
    go_ret
    exact ⟨by rw [FI.out]; rfl, below_box L15.out⟩
end Go.Proofs.Ytlcbchpijijilaa.Stripe
