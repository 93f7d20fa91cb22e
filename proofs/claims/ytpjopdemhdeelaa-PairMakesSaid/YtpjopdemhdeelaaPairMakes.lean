/-
  PairMakes: for every slice of byte rows, all integers a and b and all byte rows p and q, the law PairMakes answers true (package pair's Wrong, Make, One and Two answer as the document says), and its arguments read afterwards as before. No condition.
-/
import Derived.Test.YtpjopdemhdeelaaPairRefN
namespace Go.Proofs.Ytpjopdemhdeelaa.pairMakes
open Go.ChangeShapes Go.WideShapes Go.ChangeAt Go.RowKit
open Gf Mem Poly Cdr Pair
set_option linter.unusedVariables false

set_option maxRecDepth 100000 in
set_option maxHeartbeats 4000000 in
theorem bad (k : Int) (hk : k = 1 ∨ k = 2) (A P Q : Option Addr) (rows : List (List UInt8)) (p q : List UInt8) (ca cp cq : Nat) (a b : Int) (W : World) (hs : Sane rows) (hc : rows.length ≤ ca) (hpl : p.length ≤ 140737488351232) (hcp : p.length ≤ cp) (hql : q.length ≤ 140737488351232) (hcq : q.length ≤ cq)
    (wa : (Lit.int .i64 a).wf = true) (wb : (Lit.int .i64 b).wf = true) (hR : Rds W A rows) (hp : Reads W P (p.map byt)) (hq : Reads W Q (q.map byt)) (h : wrongE rows = k) :
    Calls Try.prog 3 #[.slice A rows.length ca, .int .i64 a, .int .i64 b, .slice P p.length cp, .slice Q q.length cq] W (Law.Yes W) := by
  have hk0 : k ≠ 0 := by omega
  have h1 := fun V (hb : Below W.heap.size W V) => make_no A rows ca rows.length k rfl hs hc h hk0 V (hR.below hb)
  have h2 := fun V (hb : Below W.heap.size W V) => one_c A P rows p ca cp a V hs hc hpl hcp wa (hR.below hb) (hp.below hb)
  have h3 := fun V (hb : Below W.heap.size W V) => two_c A P Q rows p q ca cp cq a b V hs hc hpl hcp hql hcq wa wb (hR.below hb) (hp.below hb) (hq.below hb)
  have h4 := fun V (hb : Below W.heap.size W V) => eWrong_c A rows ca hs.1 V (hR.below hb)
  have h5 := fun V (hb : Below W.heap.size W V) => wrong_k A rows ca hs.1 V (hR.below hb) h
  rw [h] at h4
  have ho : ∀ o err, OneIs rows a p o err → err = k ∧ o = [] := fun o err ho => by
    rcases ho with ⟨_, h1, h2⟩ | ⟨h1, _⟩ | ⟨h1, _⟩ | ⟨h1, _⟩
    · exact ⟨h1.trans h, h2⟩
    all_goals exact absurd (h.symm.trans h1) hk0
  have ht : ∀ u v err, TwoIs rows a b p q u v err → err = k ∧ u = [] ∧ v = [] := fun u v err ho => by
    rcases ho with ⟨_, h1, h2, h3⟩ | ⟨h1, _⟩ | ⟨h1, _⟩ | ⟨h1, _⟩ | ⟨h1, _⟩
    · exact ⟨h1.trans h, h2, h3⟩
    all_goals exact absurd (h.symm.trans h1) hk0
  have H1 := Lib.hid h1
  have H2 := Lib.hid h2
  have H3 := Lib.hid h3
  have H4 := Lib.hid h4
  have H5 := Lib.hid h5
  have HO := Lib.hid ho
  have HT := Lib.hid ht
  clear h1 h2 h3 h4 h5 ho ht h hs hc hpl hcp hql hcq wa wb hR hp hq
  rcases hk with rfl | rfl
  all_goals
    clear hk0
    go_enter Try.func3, Try.ntmps3
    go_wp2_with fail
    refine (H1.out W (Below.refl _ _)).mono ?_
    rintro e w1 ⟨A1, B1, c1, d1, rfl, _, _, _, _, hB1⟩
    have K1 := Lib.hid hB1
    clear hB1
    go_wp2_with fail
    refine (H2.out w1 K1.out).mono ?_
    rintro e w2 ⟨A2, c2, o, err, rfl, _, _, hB2, hi⟩
    obtain ⟨rfl, rfl⟩ := HO.out _ _ hi
    have K2 := Lib.hid (K1.out.trans (hB2.mono K1.out.size))
    clear hB2 hi
    go_wp2_with fail
    refine (H3.out w2 K2.out).mono ?_
    rintro e w3 ⟨A3, B3, c3, d3, u, v, err, rfl, _, _, _, _, hB3, hi⟩
    obtain ⟨rfl, rfl, rfl⟩ := HT.out _ _ _ hi
    have K3 := Lib.hid (K2.out.trans (hB3.mono K2.out.size))
    clear hB3 hi
    go_wp2_with fail
    refine (H4.out w3 K3.out).mono ?_
    rintro e w4 ⟨rfl, hd⟩
    have K4 := Lib.hid (K3.out.trans ((hd.below _).mono K3.out.size))
    clear hd
    go_wp2_with fail
    refine (H5.out w4 K4.out).mono ?_
    rintro e w' ⟨rfl, rfl⟩
    go_wp2
    go_ret
    exact ⟨rfl, K4.out⟩
--GOOD
theorem notLies {l : Nat} {k : Int} (h : ¬ Lies l k) : k < 0 ∨ (¬ k < 0 ∧ (l : Int) ≤ k) := by
  by_cases h1 : k < 0
  · exact .inl h1
  · exact .inr ⟨h1, by
      rcases Int.lt_or_le k l with h2 | h2
      · exact absurd ⟨by omega, h2⟩ h
      · exact h2⟩
theorem wrong_set2 {rows : List (List UInt8)} {a b : Nat} {u v : List UInt8} (h : wrongE rows = 0) (hu : u.length = wide rows) (hv : v.length = wide rows) : wrongE ((rows.set a u).set b v) = 0 ∧ wide ((rows.set a u).set b v) = wide rows :=
  ⟨wrongE_set (wrongE_set h hu) (by rw [wide_set hu]; exact hv), by rw [wide_set (by rw [wide_set hu]; exact hv), wide_set hu]⟩
set_option maxRecDepth 100000 in
set_option maxHeartbeats 8000000 in
theorem good (A P Q : Option Addr) (rows : List (List UInt8)) (p q : List UInt8) (ca cp cq : Nat) (a b : Int) (W : World) (hs : Sane rows) (hc : rows.length ≤ ca) (hpl : p.length ≤ 140737488351232) (hcp : p.length ≤ cp) (hql : q.length ≤ 140737488351232) (hcq : q.length ≤ cq)
    (wa : (Lit.int .i64 a).wf = true) (wb : (Lit.int .i64 b).wf = true) (hR : Rds W A rows) (hp : Reads W P (p.map byt)) (hq : Reads W Q (q.map byt)) (h : wrongE rows = 0) :
    Calls Try.prog 3 #[.slice A rows.length ca, .int .i64 a, .int .i64 b, .slice P p.length cp, .slice Q q.length cq] W (Law.Yes W) := by
  obtain ⟨h0, hbig, hev⟩ := wrongE_ok h
  obtain ⟨b0, o0, C0, c0, rfl, cr, _⟩ := first_row hR h0
  have hb0 := World.block_lt_of_cell? _ _ cr
  have h1 := fun V (hb : Below W.heap.size W V) => make_n (some ⟨b0, o0, none⟩) rows ca rows.length (wide rows) rfl rfl hs hc h V (hR.below hb)
  have h2 := fun V (hb : Below W.heap.size W V) => one_c (some ⟨b0, o0, none⟩) P rows p ca cp a V hs hc hpl hcp wa (hR.below hb) (hp.below hb)
  have h3 := fun V (hb : Below W.heap.size W V) => two_c (some ⟨b0, o0, none⟩) P Q rows p q ca cp cq a b V hs hc hpl hcp hql hcq wa wb (hR.below hb) (hp.below hb) (hq.below hb)
  have h4 := fun V (hb : Below W.heap.size W V) => eWrong_c (some ⟨b0, o0, none⟩) rows ca hs.1 V (hR.below hb)
  have h5 := fun V (hb : Below W.heap.size W V) => wrong_k (some ⟨b0, o0, none⟩) rows ca hs.1 V (hR.below hb) h
  have h6 := fun V (hb : Below W.heap.size W V) => eMake_n (some ⟨b0, o0, none⟩) rows ca rows.length (wide rows) rfl rfl h hs.head V (hR.below hb)
  rw [h] at h4
  have h7 := fun V (hb : Below W.heap.size W V) R r cr (hn : r.length = wide rows) (hk : Lies rows.length a) (hcr : wide rows ≤ cr) (hr : Reads V R (r.map byt)) =>
    ePut_n (some ⟨b0, o0, none⟩) R rows r ca cr rows.length (wide rows) a rfl hn hk hbig hcr (by have := hs.head; show (rows.headD []).length ≤ _; omega) V (hR.below hb) hr
  have hno : ¬ wrongE rows ≠ 0 := fun k => k h
  have H1 := Lib.hid h1
  have H2 := Lib.hid h2
  have H3 := Lib.hid h3
  have H4 := Lib.hid h4
  have H5 := Lib.hid h5
  have H6 := Lib.hid h6
  have H7 := Lib.hid h7
  have HP := Lib.hid hp
  have HQ := Lib.hid hq
  have HE := Lib.hid h
  have HS := Lib.hid hs
  have HNO := Lib.hid hno
  have l1 := Lib.hid (par_len 1 rows)
  have l2 := Lib.hid (par_len 2 rows)
  have i0 : (0 : Int) < (rows.length : Int) := by omega
  have HL := Lib.hid hs.head
  clear h1 h2 h3 h4 h5 h6 h7 hno hev h hs hp hq hR wa wb h0 hc hpl hql
  generalize hN : rows.length = l at *
  have HN := Lib.hid hN
  generalize hWd : wide rows = n at *
  have HW := Lib.hid hWd
  have HL2 : Hid (n ≤ 140737488351232) := Lib.hid (by rw [← HW.out]; exact HL.out)
  clear hN hWd
  go_enter Try.func3, Try.ntmps3
  go_wp2_with fail
  refine (H1.out W (Below.refl _ _)).mono ?_
  rintro e w1 ⟨A1, B1, c1, d1, rfl, _, _, hx1, hy1, hB1⟩
  have K1 := Lib.hid hB1
  have X1 := Lib.hid hx1
  have Y1 := Lib.hid hy1
  clear hB1 hx1 hy1
  go_wp2_with fail
  refine (H2.out w1 K1.out).mono ?_
  rintro e w2 ⟨A2, c2, o, err1, rfl, ho1, ho2, hB2, hi1⟩
  have K2 := Lib.hid (K1.out.trans (hB2.mono K1.out.size))
  have X2 := Lib.hid (X1.out.below hB2)
  have Y2 := Lib.hid (Y1.out.below hB2)
  have O2 := Lib.hid ho2
  have I1 := Lib.hid hi1
  clear hB2 hi1 ho2
  go_wp2_with fail
  refine (H3.out w2 K2.out).mono ?_
  rintro e w3 ⟨A3, B3, c3, d3, u, v, err2, rfl, hu1, hv1, hu2, hv2, hB3, hi2⟩
  have K3 := Lib.hid (K2.out.trans (hB3.mono K2.out.size))
  have X3 := Lib.hid (X2.out.below hB3)
  have Y3 := Lib.hid (Y2.out.below hB3)
  have O3 := Lib.hid (O2.out.below hB3)
  have U3 := Lib.hid hu2
  have V3 := Lib.hid hv2
  have I2 := Lib.hid hi2
  clear hB3 hi2 hu2 hv2
  go_wp2_with fail
  refine (H4.out w3 K3.out).mono ?_
  rintro e w4 ⟨rfl, hd⟩
  have K4 := Lib.hid (K3.out.trans ((hd.below _).mono K3.out.size))
  have X4 := Lib.hid (X3.out.drawn hd)
  have Y4 := Lib.hid (Y3.out.drawn hd)
  have O4 := Lib.hid (O3.out.drawn hd)
  have U4 := Lib.hid (U3.out.drawn hd)
  have V4 := Lib.hid (V3.out.drawn hd)
  clear hd
  go_wp2_with fail
  refine (H5.out w4 K4.out).mono ?_
  rintro e w' ⟨rfl, rfl⟩
  go_wp2_with fail
  refine (H6.out w4 K4.out).mono ?_
  rintro e w6 ⟨A6, B6, c6, d6, rfl, _, _, hx6, hy6, hB6⟩
  have K6 := Lib.hid (K4.out.trans (hB6.mono K4.out.size))
  have X6 := Lib.hid (X4.out.below hB6)
  have Y6 := Lib.hid (Y4.out.below hB6)
  have O6 := Lib.hid (O4.out.below hB6)
  have U6 := Lib.hid (U4.out.below hB6)
  have V6 := Lib.hid (V4.out.below hB6)
  have P6 := Lib.hid hx6
  have Q6 := Lib.hid hy6
  clear hB6 hx6 hy6
  go_wp2_with fail
  refine (equal_n A1 A6 (par 1 rows) (par 1 rows) c1 c6 n n w6 l1.out l1.out X6.out P6.out rfl).mono ?_
  rintro e w' ⟨rfl, rfl⟩
  go_wp2_with fail
  refine (equal_n B1 B6 (par 2 rows) (par 2 rows) d1 d6 n n w6 l2.out l2.out Y6.out Q6.out rfl).mono ?_
  rintro e w' ⟨rfl, rfl⟩
  have c16 : w6.cell? ⟨b0, o0, none⟩ = some (.slice C0 n c0) := (K6.out.cell (p := ⟨b0, o0, none⟩) hb0).trans cr
  have HRDS := Lib.hid H6
  clear X1 X2 X3 X4 X6 Y1 Y2 Y3 Y4 Y6 O2 O3 O4 U3 U4 V3 V4 K1 K2 K3 K4 P6 Q6 H1 H2 H3 H4 H5 H6 HRDS cr
  generalize hPN : p.length = pn at *
  have PN := Lib.hid hPN
  generalize hQN : q.length = qn at *
  have QN := Lib.hid hQN
  clear hPN hQN
  rcases I1.out with ⟨k1, _⟩ | ⟨_, k1, rfl, rfl⟩ | ⟨_, k1, k2, rfl, rfl⟩ | ⟨_, k1, k2, rfl, k3, k4⟩
  · exact absurd k1 HNO.out
  · rcases I2.out with ⟨m1, _⟩ | ⟨_, m1, rfl, rfl, rfl⟩ | ⟨_, m1, _⟩ | ⟨_, m1, _⟩ | ⟨_, m1, _⟩
    · exact absurd m1 HNO.out
    · rw [HN.out] at k1
      have k2 := notLies k1
      clear I1 I2 k1 m1
      rcases k2 with k2 | ⟨k2, k3⟩
      · go_wp2
        go_ret
        exact ⟨rfl, K6.out⟩
      · go_wp2
        go_ret
        exact ⟨rfl, K6.out⟩
    · exact absurd m1 k1
    · exact absurd m1 k1
    · exact absurd m1 k1
  · have a1 : ¬ a < 0 := by have := k1.1; omega
    have a2 : a < (l : Int) := by have := k1.2; rw [HN.out] at this; exact this
    have b1 : ((pn : Int) != (n : Int)) = true := by
      have : ¬ pn = n := fun h => k2 (by rw [PN.out, HW.out]; exact h)
      simp; omega
    rcases I2.out with ⟨m1, _⟩ | ⟨_, m1, rfl, rfl, rfl⟩ | ⟨_, _, m1, rfl, rfl, rfl, rfl⟩ | ⟨_, _, m1, m2, m3, rfl, rfl, rfl⟩ | ⟨_, _, m1, m2, m3, m4, rfl, m5, m6, m7, m8⟩
    · exact absurd m1 HNO.out
    · have m2 : ¬ Lies l b := fun h => m1 ⟨k1, by rw [HN.out]; exact h⟩
      have m3 := notLies m2
      clear I1 I2 k1 m1 m2
      rcases m3 with m3 | ⟨m3, m4⟩
      · go_wp2
        go_ret
        exact ⟨rfl, K6.out⟩
      · go_wp2
        go_ret
        exact ⟨rfl, K6.out⟩
    · rw [HN.out] at m1
      have n1 : ¬ a < 0 := by have := m1.1; omega
      have n2 : a < (l : Int) := m1.2
      clear I1 I2 k1 m1
      go_wp2
      go_ret
      exact ⟨rfl, K6.out⟩
    · rw [HN.out] at m1
      have n1 : ¬ b < 0 := by have := m1.1; omega
      have n2 : b < (l : Int) := m1.2
      have n3 : (a == b) = false := by simpa using m2
      clear I1 I2 k1 m1 m2 m3
      go_wp2
      go_ret
      exact ⟨rfl, K6.out⟩
    · exact absurd m3 k2
  · have a1 : ¬ a < 0 := by have := k1.1; omega
    have a2 : a < (l : Int) := by have := k1.2; rw [HN.out] at this; exact this
    obtain rfl : pn = n := by rw [← PN.out, k2, HW.out]
    have LO := Lib.hid (k3.trans HW.out)
    have hws := wrongE_set (a := a.toNat) HE.out k3
    have hwd := (wide_set (rows := rows) (a := a.toNat) k3).trans HW.out
    have HWS := Lib.hid hws
    have HWD := Lib.hid hwd
    have E0 := Lib.hid k4
    have LA := Lib.hid (show Lies l a by rw [← HN.out]; exact k1)
    rw [LO.out]
    rw [LO.out] at ho1
    clear k3 k4 hws hwd
    go_wp2_with fail
    refine (H7.out w6 K6.out A2 o c2 LO.out LA.out ho1 O6.out).mono ?_
    rintro e w7 ⟨A7, c7, rfl, hc7, hR7, hB7⟩
    have K7 := Lib.hid (K6.out.trans (hB7.mono K6.out.size))
    have U7 := Lib.hid (U6.out.below hB7)
    have V7 := Lib.hid (V6.out.below hB7)
    have R7 := Lib.hid hR7
    clear hR7 hB7
    go_wp2_with fail
    refine (eMake_n A7 (rows.set a.toNat o) c7 l pn (by rw [List.length_set, HN.out]) HWD.out HWS.out HL2.out w7 R7.out).mono ?_
    rintro e w8 ⟨A8, B8, c8, d8, rfl, _, _, hx8, hy8, hB8⟩
    have K8 := Lib.hid (K7.out.trans (hB8.mono K7.out.size))
    have U8 := Lib.hid (U7.out.below hB8)
    have V8 := Lib.hid (V7.out.below hB8)
    have X8 := Lib.hid hx8
    clear hx8 hy8 hB8 U6 U7 V6 V7 O6
    go_wp2_with fail
    refine (equal_n A8 P (par 1 (rows.set a.toNat o)) p c8 cp pn pn w8 (by rw [par_len, HWD.out]) PN.out X8.out (HP.out.below K8.out) E0.out).mono ?_
    rintro e w' ⟨rfl, rfl⟩
    rcases I2.out with ⟨m1, _⟩ | ⟨_, m1, rfl, rfl, rfl⟩ | ⟨_, _, m1, rfl, rfl, rfl, rfl⟩ | ⟨_, _, m1, m2, m3, rfl, rfl, rfl⟩ | ⟨_, _, m1, m2, m3, m4, rfl, m5, m6, m7, m8⟩
    · exact absurd m1 HNO.out
    · have m2 : ¬ Lies l b := fun h => m1 ⟨k1, by rw [HN.out]; exact h⟩
      have m3 := notLies m2
      clear I1 I2 k1 m1 m2
      rcases m3 with m3 | ⟨m3, m4⟩
      · go_wp2
        go_ret
        exact ⟨rfl, K8.out⟩
      · go_wp2
        go_ret
        exact ⟨rfl, K8.out⟩
    · rw [HN.out] at m1
      have n1 : ¬ a < 0 := by have := m1.1; omega
      have n2 : a < (l : Int) := m1.2
      clear I1 I2 k1 m1
      go_wp2
      go_ret
      exact ⟨rfl, K8.out⟩
    · rw [HN.out] at m1
      have n1 : ¬ b < 0 := by have := m1.1; omega
      have n2 : b < (l : Int) := m1.2
      have n3 : (a == b) = false := by simpa using m2
      have n4 : ((qn : Int) != (pn : Int)) = true := by
        have : ¬ qn = pn := fun h => m3 ⟨PN.out.trans HW.out.symm, by rw [QN.out, HW.out]; exact h⟩
        simp; omega
      clear I1 I2 k1 m1 m2 m3
      go_wp2
      go_ret
      exact ⟨rfl, K8.out⟩
    · rw [HN.out] at m1
      have n1 : ¬ b < 0 := by have := m1.1; omega
      have n2 : b < (l : Int) := m1.2
      have n3 : (a == b) = false := by simpa using m2
      obtain rfl : qn = pn := by rw [← QN.out, m4, HW.out]
      have LU := Lib.hid (m5.trans HW.out)
      have LV := Lib.hid (m6.trans HW.out)
      have hw2 := wrong_set2 (a := a.toNat) (b := b.toNat) HE.out m5 m6
      rw [HW.out] at hw2
      have E1 := Lib.hid m7
      have E2 := Lib.hid m8
      have LB := Lib.hid m1
      have HW2 := Lib.hid hw2
      rw [LU.out, LV.out]
      rw [LU.out] at hu1
      rw [LV.out] at hv1
      clear I1 I2 k1 m1 m2 m3 m4 m5 m6 m7 m8 hw2
      go_wp2_with fail
      refine (H7.out w8 K8.out A3 u c3 LU.out LA.out hu1 U8.out).mono ?_
      rintro e w9 ⟨A9, c9, rfl, hc9, hR9, hB9⟩
      have K9 := Lib.hid (K8.out.trans (hB9.mono K8.out.size))
      have V9 := Lib.hid (V8.out.below hB9)
      have R9 := Lib.hid hR9
      have hbg : l ≤ 255 := hbig
      clear hR9 hB9
      go_wp2_with fail
      refine (ePut_n A9 B3 (rows.set a.toNat u) v c9 d3 l qn b (by rw [List.length_set, HN.out]) LV.out LB.out hbg hv1 (by have := HL2.out; omega) w9 R9.out V9.out).mono ?_
      rintro e w10 ⟨A10, c10, rfl, hc10, hR10, hB10⟩
      have K10 := Lib.hid (K9.out.trans (hB10.mono K9.out.size))
      have R10 := Lib.hid hR10
      clear hR10 hB10
      go_wp2_with fail
      refine (eMake_n A10 ((rows.set a.toNat u).set b.toNat v) c10 l qn (by rw [List.length_set, List.length_set, HN.out]) HW2.out.2 HW2.out.1 HL2.out w10 R10.out).mono ?_
      rintro e w11 ⟨A11, B11, c11, d11, rfl, _, _, hx11, hy11, hB11⟩
      have K11 := Lib.hid (K10.out.trans (hB11.mono K10.out.size))
      have X11 := Lib.hid hx11
      have Y11 := Lib.hid hy11
      clear hx11 hy11 hB11
      go_wp2_with fail
      refine (equal_n A11 P (par 1 ((rows.set a.toNat u).set b.toNat v)) p c11 cp qn qn w11 (by rw [par_len, HW2.out.2]) PN.out X11.out (HP.out.below K11.out) E1.out).mono ?_
      rintro e w' ⟨rfl, rfl⟩
      go_wp2_with fail
      refine (equal_n B11 Q (par 2 ((rows.set a.toNat u).set b.toNat v)) q d11 cq qn qn w11 (by rw [par_len, HW2.out.2]) QN.out Y11.out (HQ.out.below K11.out) E2.out).mono ?_
      rintro e w' ⟨rfl, rfl⟩
      go_wp2
      go_ret
      exact ⟨rfl, K11.out⟩
theorem words (A P Q : Option Addr) (rows : List (List UInt8)) (p q : List UInt8) (ca cp cq : Nat) (a b : Int) (W : World) (hs : Sane rows) (hc : rows.length ≤ ca) (hpl : p.length ≤ 140737488351232) (hcp : p.length ≤ cp) (hql : q.length ≤ 140737488351232) (hcq : q.length ≤ cq)
    (wa : (Lit.int .i64 a).wf = true) (wb : (Lit.int .i64 b).wf = true) (hR : Rds W A rows) (hp : Reads W P (p.map byt)) (hq : Reads W Q (q.map byt)) :
    Calls Try.prog 3 #[.slice A rows.length ca, .int .i64 a, .int .i64 b, .slice P p.length cp, .slice Q q.length cq] W (Law.Yes W) := by
  rcases wrongE_012 rows with h | h | h
  · exact good A P Q rows p q ca cp cq a b W hs hc hpl hcp hql hcq wa wb hR hp hq h
  · exact bad 1 (.inl rfl) A P Q rows p q ca cp cq a b W hs hc hpl hcp hql hcq wa wb hR hp hq h
  · exact bad 2 (.inr rfl) A P Q rows p q ca cp cq a b W hs hc hpl hcp hql hcq wa wb hR hp hq h
theorem walk {H : Type} {enc : TypeId × Value → H} {base : Nat} {W : World} {v0 v3 v4 : Value} {d0 d3 d4 : DataW H} {p0 p3 p4 : List MemPlace}
    (o0 : Value.okWide Try.prog W .any base 22 v0) (h0 : DataW.Trod enc Try.prog W 0 (fun _ => true) true 22 v0 d0 p0) (a1 : Int) (w1 : (Lit.int .i64 a1).wf = true) (a2 : Int) (w2 : (Lit.int .i64 a2).wf = true)
    (o3 : Value.okWide Try.prog W .any base 23 v3) (h3 : DataW.Trod enc Try.prog W 0 (fun _ => true) true 23 v3 d3 p3) (o4 : Value.okWide Try.prog W .any base 23 v4) (h4 : DataW.Trod enc Try.prog W 0 (fun _ => true) true 23 v4 d4 p4)
    (hz : (DataW.weightsEach Try.prog [22, 3, 3, 23, 23] [d0, .lit (.int .i64 a1), .lit (.int .i64 a2), d3, d4]).all (· ≤ reachBytes) = true) :
    Calls Try.prog 3 #[v0, .int .i64 a1, .int .i64 a2, v3, v4] W (Law.Yes W) := by
  obtain ⟨A0, c0, l0, rfl, z0, k0, _, r0, s0⟩ := open_rowsZ Try.underlying22 Try.underlying23 Try.underlying5 (by kernel_rfl) (by kernel_rfl) (by kernel_rfl) (by kernel_rfl) o0 h0 hz (j := 0) rfl rfl
  obtain ⟨A3, c3, l3, rfl, z3, r3, k3, _⟩ := open_bytesZ Try.underlying23 Try.underlying5 (by kernel_rfl) (by kernel_rfl) o3 h3 hz (j := 3) rfl rfl
  obtain ⟨A4, c4, l4, rfl, z4, r4, k4, _⟩ := open_bytesZ Try.underlying23 Try.underlying5 (by kernel_rfl) (by kernel_rfl) o4 h4 hz (j := 4) rfl rfl
  exact words A0 A3 A4 l0 l3 l4 c0 c3 c4 a1 a2 W ⟨z0, s0⟩ k0 z3 k3 z4 k4 w1 w2 r0 r3 r4
theorem own : ownKnob Try.prog.godebug = none := by kernel_rfl
theorem laid : laidOutB Try.prog = true := by kernel_rfl
theorem pars : ∀ t ∈ Try.f3.params.toList, Try.prog.readableRec t = true ∧ t < Try.prog.types.size := by
  have h : Try.f3.params.toList.all (fun t => Try.prog.readableRec t && decide (t < Try.prog.types.size)) = true := by kernel_rfl
  intro t ht; have := List.all_eq_true.1 h t ht; simpa using this
theorem calls (H : Type) (enc : TypeId × Value → H) (W : World) (base : Nat) (args : Array Value) (ds : List (DataW H)) (before : List MemPlace)
    (hval : ∀ (j : Nat) t v, Try.f3.params[j]? = some t → args[j]? = some v → Value.okWide Try.prog W .any base t v)
    (hA : DataW.TrodAll enc Try.prog W 0 (fun _ => true) true Try.f3.params.toList args.toList ds before) (hz : (DataW.weightsEach Try.prog Try.f3.params.toList ds).all (· ≤ reachBytes) = true) :
    Calls Try.prog 3 args W (Law.Yes W) := by
  rw [Try.params3] at hA hval hz
  obtain ⟨v0, vs0, d0, ds0, p0, q0, hargs, rfl, rfl, h0, r0⟩ := trodAll_cons hA
  obtain ⟨v1, vs1, d1, ds1, p1, q1, rfl, rfl, rfl, h1, r1⟩ := trodAll_cons r0
  obtain ⟨v2, vs2, d2, ds2, p2, q2, rfl, rfl, rfl, h2, r2⟩ := trodAll_cons r1
  obtain ⟨v3, vs3, d3, ds3, p3, q3, rfl, rfl, rfl, h3, r3⟩ := trodAll_cons r2
  obtain ⟨v4, vs4, d4, ds4, p4, q4, rfl, rfl, rfl, h4, r4⟩ := trodAll_cons r3
  obtain ⟨rfl, rfl, rfl⟩ := trodAll_nil r4
  obtain rfl : args = #[v0, v1, v2, v3, v4] := by cases args; simp_all
  obtain ⟨a1, rfl, rfl, rfl, w1⟩ := open_int Try.underlying3 (hval 1 3 v1 rfl rfl) h1
  obtain ⟨a2, rfl, rfl, rfl, w2⟩ := open_int Try.underlying3 (hval 2 3 v2 rfl rfl) h2
  exact walk (W := W) (hval 0 22 v0 rfl rfl) h0 a1 w1 a2 w2 (hval 3 23 v3 rfl rfl) h3 (hval 4 23 v4 rfl rfl) h4 hz
theorem fnOf (H : Type) : ∀ ds : List (DataW H), ds.length = Try.f3.params.toList.length → Rows.pairMakesSpec.fn H ds = { results := [.lit (.bool true)], args := ds } := by
  intro ds h
  have h : ds.length = 5 := h
  obtain _ | ⟨x0, ds⟩ := ds
  · simp at h
  obtain _ | ⟨x1, ds⟩ := ds
  · simp at h
  obtain _ | ⟨x2, ds⟩ := ds
  · simp at h
  obtain _ | ⟨x3, ds⟩ := ds
  · simp at h
  obtain _ | ⟨x4, ds⟩ := ds
  · simp at h
  obtain rfl : ds = [] := List.eq_nil_of_length_eq_zero (by simpa using h)
  rfl
set_option maxRecDepth 100000 in
theorem lifted (os : Os) (started : os.Started) (H : Type) (enc : TypeId × Value → H) :
    ReturnsInHanded {} Try.checked os 3 .any (Rows.pairMakesSpec.pre6 enc Try.prog Try.f3 Rows.pairMakesRow.domain false) (Rows.pairMakesSpec.post enc Try.prog Try.f3 false true false false) := by
  refine returnsInHanded_of_change_sized (C := Try.checked) own started (by kernel_rfl) Try.func3
    (ChangeSpec.witness6 (enc := enc) (C := Try.checked) false ⟨#[], #[.slice none 0 0, .int .i64 0, .int .i64 0, .slice none 0 0, .slice none 0 0], []⟩ 8 (by kernel_rfl) (by kernel_rfl) (by kernel_rfl) (by kernel_rfl)) ?_
  intro W base args ds gs before hval hW _ hz _
  obtain ⟨p, q, hA, hV, rfl, hfz, hnd⟩ := id hW
  obtain ⟨rfl, rfl⟩ := trodVars_none hV
  simp only [List.append_nil] at hz
  have hz2 : (DataW.weightsEach Try.prog Try.f3.params.toList ds).all (· ≤ reachBytes) = true := hz
  exact Law.ending (C := Try.checked) (s := Rows.pairMakesSpec) laid pars rfl Try.underlying4 rfl (fnOf H) hW (calls H enc W base args ds p hval hA hz2)
theorem over : Rows.pairMakesRow.holds Try.pinned (OpenSpec.ofChange Rows.pairMakesSpec) :=
  OpenClaim.holds_of_wide 3 Try.f3 rfl rfl rfl rfl rfl rfl rfl ⟨rfl, rfl, rfl, rfl, rfl⟩ rfl rfl rfl rfl rfl (by kernel_rfl) Try.func3 (by kernel_rfl)
    (of_decide_eq_true (by kernel_rfl)) (by unfold Func.isWrapper; first | (rw [if_pos (by decide +kernel)]; kernel_rfl) | (rw [if_neg (by decide +kernel)]; exact ⟨rfl, rfl⟩))
    (fun os started H enc _ => lifted os started H enc)
theorem proved : Rows.PairMakesSaid := over
end Go.Proofs.Ytpjopdemhdeelaa.pairMakes
