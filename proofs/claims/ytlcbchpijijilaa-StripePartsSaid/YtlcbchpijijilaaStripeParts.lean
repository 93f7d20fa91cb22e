/-
  StripeParts: for every layout and all integers at, a and b, the law StripeParts answers true (the extents of a range are those of two parts, put together where they meet), and its arguments read afterwards as before. No condition.
-/
import Derived.Test.YtlcbchpijijilaaStPartsA
namespace Go.Proofs.Ytlcbchpijijilaa.stripeParts
open Go.ChangeShapes Go.WideShapes Go.ChangeAt Go.RowKit
open Mem Stripe
set_option linter.unusedVariables false

set_option maxRecDepth 100000 in
set_option maxHeartbeats 8000000 in
theorem one (u w d : Int) (n a b nz : Nat) (V : World) (zs : List Ex) (h1 : n ≤ 1099511627776) (h2 : a ≤ 1073741824) (h3 : b ≤ 1073741824) (xs ys : List Ex) (nx ny : Nat) (hx : nx ≤ 1073741824) (hy : ny ≤ 1073741824) (hz : nz ≤ 2147483648)
    (H1 : Hid (∀ V, Calls Try.prog 15 #[.agg #[.int .i64 u, .int .i64 w, .int .i64 d], .int .i64 n, .int .i64 a] V (ExOut xs V))) (H2 : Hid (∀ V, Calls Try.prog 15 #[.agg #[.int .i64 u, .int .i64 w, .int .i64 d], .int .i64 ((n : Int) + (a : Int)), .int .i64 b] V (ExOut ys V))) (H3 : Hid (∀ V, Calls Try.prog 15 #[.agg #[.int .i64 u, .int .i64 w, .int .i64 d], .int .i64 n, .int .i64 ((a : Int) + (b : Int))] V (ExOut zs V)))
    (L1 : Hid (xs.length = nx)) (L2 : Hid (ys.length = ny)) (L3 : Hid (zs.length = nz))
    (EQ : Hid (xs ++ ys = zs)) (h0 : nx = 0 ∨ ny = 0) : Calls Try.prog 7 #[.agg #[.int .i64 u, .int .i64 w, .int .i64 d], .int .i64 n, .int .i64 a, .int .i64 b] V (Law.Yes V) := by
  by_cases hn : nx = 0
  · subst hn
    have d1 : decide ((0 : Int) < 0) = false := by decide
    clear h0
    go_enter Try.func7, Try.ntmps7
    go_wp2_with fail
    refine (alive_c _).mono ?_
    rintro e w1 ⟨rfl, hb⟩
    obtain ⟨c0, c1, c2⟩ := box_cells hb
    have HB1 := Lib.hid hb
    clear hb
    go_wp2_with fail
    refine (H1.out _).mono ?_
    rintro e w2 ⟨A1, s1, rfl, hs1, hT1, hb⟩
    have hb' := HB1.out.trans (hb.mono HB1.out.size)
    obtain ⟨d0, d1, d2⟩ := box_cells hb'
    have HB2 := Lib.hid hb'
    have G1 := Lib.hid hb
    rw [L1.out] at hT1 hs1 ⊢
    have T1 := Lib.hid hT1
    clear hb hb' hT1 c0 c1 c2
    go_wp2_with fail
    refine (H2.out _).mono ?_
    rintro e w3 ⟨A2, s2, rfl, hs2, hT2, hb⟩
    have hb' := HB2.out.trans (hb.mono HB2.out.size)
    obtain ⟨e0, e1, e2⟩ := box_cells hb'
    have HB3 := Lib.hid hb'
    have G2 := Lib.hid hb
    rw [L2.out] at hT2 hs2 ⊢
    have T2 := Lib.hid hT2
    clear hb hb' hT2 d0 d1 d2
    go_wp2_with fail
    refine (H3.out _).mono ?_
    rintro e w4 ⟨A3, s3, rfl, hs3, hT3, hb⟩
    have hb' := HB3.out.trans (hb.mono HB3.out.size)
    obtain ⟨f0, f1, f2⟩ := box_cells hb'
    have HB4 := Lib.hid hb'
    have G3 := Lib.hid hb
    rw [L3.out] at hT3 hs3 ⊢
    have T3 := Lib.hid hT3
    clear hb hb' hT3 e0 e1 e2
    have X4 := Lib.hid ((T1.out.later G2.out).later G3.out)
    have Y4 := Lib.hid (T2.out.later G3.out)
    clear f0 f1 f2 H1 H2 H3
    go_wp2
    go_quiet (fail)
    have hsz : (w4.drewN nq).heap.size = w4.heap.size := by simp
    have kn : Known ((w4.drewN nq).alloc (.cells #[.slice A1 0 s1, .slice A2 ny s2] 34)) w4.heap.size 34 #[.slice A1 0 s1, .slice A2 ny s2] := by
      have h := Known.made (w4.drewN nq) 34 #[.slice A1 0 s1, .slice A2 ny s2]
      rw [hsz] at h; exact h
    have ha : Below (w4.drewN nq).heap.size (w4.drewN nq) ((w4.drewN nq).alloc (.cells #[.slice A1 0 s1, .slice A2 ny s2] 34)) := (Below.refl _ _).alloc (Nat.le_refl _) _
    have hk : 0 + ny = nz := by rw [← L1.out, ← L2.out, ← List.length_append, EQ.out, L3.out]
    have hc := concat_t w4.heap.size (0) (ny) nz s1 s2 A1 A2 xs ys ((w4.drewN nq).alloc (.cells #[.slice A1 0 s1, .slice A2 ny s2] 34)) L1.out L2.out hk (by omega) (by omega) (kn.lt) (kn.cell 0) (kn.cell 1) (((X4.out.later ((Drawn.refl w4).more nq |>.below _)).rds).below ha) (((Y4.out.later ((Drawn.refl w4).more nq |>.below _)).rds).below ha)
    have HC := Lib.hid hc
    have HA := Lib.hid ha
    clear kn ha hc hk hsz
    go_wp2_with fail
    (with_reducible refine HC.out.mono ?_)
    rintro e w5 ⟨A5, c5, rfl, hT5, hb5⟩
    have hb6 := HA.out.trans (hb5.mono HA.out.size)
    have T5 := Lib.hid hT5.rds
    have B5 := Lib.hid ((below_drewN HB4.out nq).trans (hb6.mono (below_drewN HB4.out nq).size))
    have Z5 := Lib.hid (((T3.out.later ((Drawn.refl w4).more nq |>.below _)).rds).below hb6)
    clear hT5 hb5 hb6
    go_wp2_with fail
    refine (equalEx_c A5 A3 (xs ++ ys) zs nz nz c5 s3 _ (by rw [EQ.out]; exact L3.out) L3.out (by omega) T5.out Z5.out).mono ?_
    rintro e w6 ⟨rfl, hb6⟩
    rw [show eqEx (xs ++ ys) zs = true from decide_eq_true EQ.out]
    have B6 := Lib.hid (B5.out.trans (hb6.mono B5.out.size))
    clear hb6
    go_wp2
    go_ret
    exact ⟨rfl, below_box B6.out⟩
  · have hm : ny = 0 := by omega
    subst hm
    have d1 : decide ((0 : Int) < (nx : Int)) = true := by rw [decide_eq_true_iff]; omega
    have d2 : 0 < nx := by omega
    clear h0 hn
    go_enter Try.func7, Try.ntmps7
    go_wp2_with fail
    refine (alive_c _).mono ?_
    rintro e w1 ⟨rfl, hb⟩
    obtain ⟨c0, c1, c2⟩ := box_cells hb
    have HB1 := Lib.hid hb
    clear hb
    go_wp2_with fail
    refine (H1.out _).mono ?_
    rintro e w2 ⟨A1, s1, rfl, hs1, hT1, hb⟩
    have hb' := HB1.out.trans (hb.mono HB1.out.size)
    obtain ⟨d0, d1, d2⟩ := box_cells hb'
    have HB2 := Lib.hid hb'
    have G1 := Lib.hid hb
    rw [L1.out] at hT1 hs1 ⊢
    have T1 := Lib.hid hT1
    clear hb hb' hT1 c0 c1 c2
    go_wp2_with fail
    refine (H2.out _).mono ?_
    rintro e w3 ⟨A2, s2, rfl, hs2, hT2, hb⟩
    have hb' := HB2.out.trans (hb.mono HB2.out.size)
    obtain ⟨e0, e1, e2⟩ := box_cells hb'
    have HB3 := Lib.hid hb'
    have G2 := Lib.hid hb
    rw [L2.out] at hT2 hs2 ⊢
    have T2 := Lib.hid hT2
    clear hb hb' hT2 d0 d1 d2
    go_wp2_with fail
    refine (H3.out _).mono ?_
    rintro e w4 ⟨A3, s3, rfl, hs3, hT3, hb⟩
    have hb' := HB3.out.trans (hb.mono HB3.out.size)
    obtain ⟨f0, f1, f2⟩ := box_cells hb'
    have HB4 := Lib.hid hb'
    have G3 := Lib.hid hb
    rw [L3.out] at hT3 hs3 ⊢
    have T3 := Lib.hid hT3
    clear hb hb' hT3 e0 e1 e2
    have X4 := Lib.hid ((T1.out.later G2.out).later G3.out)
    have Y4 := Lib.hid (T2.out.later G3.out)
    clear f0 f1 f2 H1 H2 H3
    go_wp2
    go_quiet (fail)
    have hsz : (w4.drewN nq).heap.size = w4.heap.size := by simp
    have kn : Known ((w4.drewN nq).alloc (.cells #[.slice A1 nx s1, .slice A2 0 s2] 34)) w4.heap.size 34 #[.slice A1 nx s1, .slice A2 0 s2] := by
      have h := Known.made (w4.drewN nq) 34 #[.slice A1 nx s1, .slice A2 0 s2]
      rw [hsz] at h; exact h
    have ha : Below (w4.drewN nq).heap.size (w4.drewN nq) ((w4.drewN nq).alloc (.cells #[.slice A1 nx s1, .slice A2 0 s2] 34)) := (Below.refl _ _).alloc (Nat.le_refl _) _
    have hk : nx + 0 = nz := by rw [← L1.out, ← L2.out, ← List.length_append, EQ.out, L3.out]
    have hc := concat_t w4.heap.size (nx) (0) nz s1 s2 A1 A2 xs ys ((w4.drewN nq).alloc (.cells #[.slice A1 nx s1, .slice A2 0 s2] 34)) L1.out L2.out hk (by omega) (by omega) (kn.lt) (kn.cell 0) (kn.cell 1) (((X4.out.later ((Drawn.refl w4).more nq |>.below _)).rds).below ha) (((Y4.out.later ((Drawn.refl w4).more nq |>.below _)).rds).below ha)
    have HC := Lib.hid hc
    have HA := Lib.hid ha
    clear kn ha hc hk hsz
    go_wp2_with fail
    (with_reducible refine HC.out.mono ?_)
    rintro e w5 ⟨A5, c5, rfl, hT5, hb5⟩
    have hb6 := HA.out.trans (hb5.mono HA.out.size)
    have T5 := Lib.hid hT5.rds
    have B5 := Lib.hid ((below_drewN HB4.out nq).trans (hb6.mono (below_drewN HB4.out nq).size))
    have Z5 := Lib.hid (((T3.out.later ((Drawn.refl w4).more nq |>.below _)).rds).below hb6)
    clear hT5 hb5 hb6
    go_wp2_with fail
    refine (equalEx_c A5 A3 (xs ++ ys) zs nz nz c5 s3 _ (by rw [EQ.out]; exact L3.out) L3.out (by omega) T5.out Z5.out).mono ?_
    rintro e w6 ⟨rfl, hb6⟩
    rw [show eqEx (xs ++ ys) zs = true from decide_eq_true EQ.out]
    have B6 := Lib.hid (B5.out.trans (hb6.mono B5.out.size))
    clear hb6
    go_wp2
    go_ret
    exact ⟨rfl, below_box B6.out⟩
set_option maxRecDepth 100000 in
set_option maxHeartbeats 8000000 in
theorem apart (u w d : Int) (n a b nz : Nat) (V : World) (zs : List Ex) (h1 : n ≤ 1099511627776) (h2 : a ≤ 1073741824) (h3 : b ≤ 1073741824) (xp yt : List Ex) (p0 p1 p2 q0 q1 q2 j l : Nat) (hx : j ≤ 1073741824) (hy : l ≤ 1073741824) (hz : nz ≤ 2147483648) (hp : p1 + p2 ≤ 2199023255552)
    (H1 : Hid (∀ V, Calls Try.prog 15 #[.agg #[.int .i64 u, .int .i64 w, .int .i64 d], .int .i64 n, .int .i64 a] V (ExOut (xp ++ [(p0, p1, p2)]) V))) (H2 : Hid (∀ V, Calls Try.prog 15 #[.agg #[.int .i64 u, .int .i64 w, .int .i64 d], .int .i64 ((n : Int) + (a : Int)), .int .i64 b] V (ExOut ((q0, q1, q2) :: yt) V))) (H3 : Hid (∀ V, Calls Try.prog 15 #[.agg #[.int .i64 u, .int .i64 w, .int .i64 d], .int .i64 n, .int .i64 ((a : Int) + (b : Int))] V (ExOut zs V)))
    (L1 : Hid ((xp ++ [(p0, p1, p2)]).length = j + 1)) (L2 : Hid (((q0, q1, q2) :: yt).length = l + 1)) (L3 : Hid (zs.length = nz))
    (EQ : Hid ((xp ++ [(p0, p1, p2)]) ++ ((q0, q1, q2) :: yt) = zs)) (hm : meets (p0, p1, p2) (q0, q1, q2) = false) : Calls Try.prog 7 #[.agg #[.int .i64 u, .int .i64 w, .int .i64 d], .int .i64 n, .int .i64 a, .int .i64 b] V (Law.Yes V) := by
  have hme : (p0 == q0 && p1 + p2 == q1) = false := hm
  have x1 : IntKind.i64.wrap (((j + 1 : Nat) : Int) - 1) = (j : Int) := by rw [IntWalk.i64_in _ (by omega)]; omega
  have x2 : IntKind.i64.wrap ((j : Int) + 1 - 1) = (j : Int) := by rw [IntWalk.i64_in _ (by omega)]; omega
  have x3 : IntKind.i64.wrap ((p1 : Int) + (p2 : Int)) = (p1 : Int) + (p2 : Int) := IntWalk.i64_in _ (by omega)
  have d5 : decide ((0 : Int) < (j : Int) + 1) = true := by rw [decide_eq_true_iff]; omega
  have d6 : decide ((0 : Int) < (l : Int) + 1) = true := by rw [decide_eq_true_iff]; omega
  have LP : Hid (xp.length = j) := Lib.hid (by have := L1.out; simpa using this)
  clear hm
  by_cases e : p0 = q0
  · subst e
    have n2 : ((p1 : Int) + (p2 : Int) == (q1 : Int)) = false := by
      rw [beq_self_eq_true, Bool.true_and, beq_eq_false_iff_ne] at hme
      rw [beq_eq_false_iff_ne]; omega
    clear hme
    go_enter Try.func7, Try.ntmps7
    go_wp2_with fail
    refine (alive_c _).mono ?_
    rintro e w1 ⟨rfl, hb⟩
    obtain ⟨c0, c1, c2⟩ := box_cells hb
    have HB1 := Lib.hid hb
    clear hb
    go_wp2_with fail
    refine (H1.out _).mono ?_
    rintro e w2 ⟨A1, s1, rfl, hs1, hT1, hb⟩
    have hb' := HB1.out.trans (hb.mono HB1.out.size)
    obtain ⟨d0, d1, d2⟩ := box_cells hb'
    have HB2 := Lib.hid hb'
    have G1 := Lib.hid hb
    rw [L1.out] at hT1 hs1 ⊢
    have T1 := Lib.hid hT1
    clear hb hb' hT1 c0 c1 c2
    go_wp2_with fail
    refine (H2.out _).mono ?_
    rintro e w3 ⟨A2, s2, rfl, hs2, hT2, hb⟩
    have hb' := HB2.out.trans (hb.mono HB2.out.size)
    obtain ⟨e0, e1, e2⟩ := box_cells hb'
    have HB3 := Lib.hid hb'
    have G2 := Lib.hid hb
    rw [L2.out] at hT2 hs2 ⊢
    have T2 := Lib.hid hT2
    clear hb hb' hT2 d0 d1 d2
    go_wp2_with fail
    refine (H3.out _).mono ?_
    rintro e w4 ⟨A3, s3, rfl, hs3, hT3, hb⟩
    have hb' := HB3.out.trans (hb.mono HB3.out.size)
    obtain ⟨f0, f1, f2⟩ := box_cells hb'
    have HB4 := Lib.hid hb'
    have G3 := Lib.hid hb
    rw [L3.out] at hT3 hs3 ⊢
    have T3 := Lib.hid hT3
    clear hb hb' hT3 e0 e1 e2
    have X4 := Lib.hid ((T1.out.later G2.out).later G3.out)
    have Y4 := Lib.hid (T2.out.later G3.out)
    clear f0 f1 f2 H1 H2 H3
    obtain ⟨b, o, rfl, hbl, x0, x1, x2⟩ := X4.out.rds xp.length (p0, p1, p2) (by rw [List.getElem?_append_right (Nat.le_refl _), Nat.sub_self]; rfl)
    obtain ⟨b', o', rfl, hbl', y0, y1, y2⟩ := Y4.out.rds 0 (p0, q1, q2) rfl
    rw [Nat.zero_mul, Nat.add_zero] at y0 y1 y2
    rw [LP.out] at x0 x1 x2
    clear hbl hbl'
    go_wp2
    go_quiet (fail)
    have hsz : (w4.drewN nq).heap.size = w4.heap.size := by simp
    have kn : Known ((w4.drewN nq).alloc (.cells #[.slice (some ⟨b, o, none⟩) (j + 1) s1, .slice (some ⟨b', o', none⟩) (l + 1) s2] 34)) w4.heap.size 34 #[.slice (some ⟨b, o, none⟩) (j + 1) s1, .slice (some ⟨b', o', none⟩) (l + 1) s2] := by
      have h := Known.made (w4.drewN nq) 34 #[.slice (some ⟨b, o, none⟩) (j + 1) s1, .slice (some ⟨b', o', none⟩) (l + 1) s2]
      rw [hsz] at h; exact h
    have ha : Below (w4.drewN nq).heap.size (w4.drewN nq) ((w4.drewN nq).alloc (.cells #[.slice (some ⟨b, o, none⟩) (j + 1) s1, .slice (some ⟨b', o', none⟩) (l + 1) s2] 34)) := (Below.refl _ _).alloc (Nat.le_refl _) _
    have hk : (j + 1) + (l + 1) = nz := by rw [← L1.out, ← L2.out, ← List.length_append, EQ.out, L3.out]
    have hc := concat_t w4.heap.size ((j + 1)) ((l + 1)) nz s1 s2 (some ⟨b, o, none⟩) (some ⟨b', o', none⟩) (xp ++ [(p0, p1, p2)]) ((p0, q1, q2) :: yt) ((w4.drewN nq).alloc (.cells #[.slice (some ⟨b, o, none⟩) (j + 1) s1, .slice (some ⟨b', o', none⟩) (l + 1) s2] 34)) L1.out L2.out hk (by omega) (by omega) (kn.lt) (kn.cell 0) (kn.cell 1) (((X4.out.later ((Drawn.refl w4).more nq |>.below _)).rds).below ha) (((Y4.out.later ((Drawn.refl w4).more nq |>.below _)).rds).below ha)
    have HC := Lib.hid hc
    have HA := Lib.hid ha
    clear kn ha hc hk hsz
    go_wp2_with fail
    (with_reducible refine HC.out.mono ?_)
    rintro e w5 ⟨A5, c5, rfl, hT5, hb5⟩
    have hb6 := HA.out.trans (hb5.mono HA.out.size)
    have T5 := Lib.hid hT5.rds
    have B5 := Lib.hid ((below_drewN HB4.out nq).trans (hb6.mono (below_drewN HB4.out nq).size))
    have Z5 := Lib.hid (((T3.out.later ((Drawn.refl w4).more nq |>.below _)).rds).below hb6)
    clear hT5 hb5 hb6
    go_wp2_with fail
    refine (equalEx_c A5 A3 ((xp ++ [(p0, p1, p2)]) ++ ((p0, q1, q2) :: yt)) zs nz nz c5 s3 _ (by rw [EQ.out]; exact L3.out) L3.out (by omega) T5.out Z5.out).mono ?_
    rintro e w6 ⟨rfl, hb6⟩
    rw [show eqEx ((xp ++ [(p0, p1, p2)]) ++ ((p0, q1, q2) :: yt)) zs = true from decide_eq_true EQ.out]
    have B6 := Lib.hid (B5.out.trans (hb6.mono B5.out.size))
    clear hb6
    go_wp2
    go_ret
    exact ⟨rfl, below_box B6.out⟩
  · have n2 : ((p0 : Int) == (q0 : Int)) = false := by rw [beq_eq_false_iff_ne]; omega
    clear hme e
    go_enter Try.func7, Try.ntmps7
    go_wp2_with fail
    refine (alive_c _).mono ?_
    rintro e w1 ⟨rfl, hb⟩
    obtain ⟨c0, c1, c2⟩ := box_cells hb
    have HB1 := Lib.hid hb
    clear hb
    go_wp2_with fail
    refine (H1.out _).mono ?_
    rintro e w2 ⟨A1, s1, rfl, hs1, hT1, hb⟩
    have hb' := HB1.out.trans (hb.mono HB1.out.size)
    obtain ⟨d0, d1, d2⟩ := box_cells hb'
    have HB2 := Lib.hid hb'
    have G1 := Lib.hid hb
    rw [L1.out] at hT1 hs1 ⊢
    have T1 := Lib.hid hT1
    clear hb hb' hT1 c0 c1 c2
    go_wp2_with fail
    refine (H2.out _).mono ?_
    rintro e w3 ⟨A2, s2, rfl, hs2, hT2, hb⟩
    have hb' := HB2.out.trans (hb.mono HB2.out.size)
    obtain ⟨e0, e1, e2⟩ := box_cells hb'
    have HB3 := Lib.hid hb'
    have G2 := Lib.hid hb
    rw [L2.out] at hT2 hs2 ⊢
    have T2 := Lib.hid hT2
    clear hb hb' hT2 d0 d1 d2
    go_wp2_with fail
    refine (H3.out _).mono ?_
    rintro e w4 ⟨A3, s3, rfl, hs3, hT3, hb⟩
    have hb' := HB3.out.trans (hb.mono HB3.out.size)
    obtain ⟨f0, f1, f2⟩ := box_cells hb'
    have HB4 := Lib.hid hb'
    have G3 := Lib.hid hb
    rw [L3.out] at hT3 hs3 ⊢
    have T3 := Lib.hid hT3
    clear hb hb' hT3 e0 e1 e2
    have X4 := Lib.hid ((T1.out.later G2.out).later G3.out)
    have Y4 := Lib.hid (T2.out.later G3.out)
    clear f0 f1 f2 H1 H2 H3
    obtain ⟨b, o, rfl, hbl, x0, x1, x2⟩ := X4.out.rds xp.length (p0, p1, p2) (by rw [List.getElem?_append_right (Nat.le_refl _), Nat.sub_self]; rfl)
    obtain ⟨b', o', rfl, hbl', y0, y1, y2⟩ := Y4.out.rds 0 (q0, q1, q2) rfl
    rw [Nat.zero_mul, Nat.add_zero] at y0 y1 y2
    rw [LP.out] at x0 x1 x2
    clear hbl hbl'
    go_wp2
    go_quiet (fail)
    have hsz : (w4.drewN nq).heap.size = w4.heap.size := by simp
    have kn : Known ((w4.drewN nq).alloc (.cells #[.slice (some ⟨b, o, none⟩) (j + 1) s1, .slice (some ⟨b', o', none⟩) (l + 1) s2] 34)) w4.heap.size 34 #[.slice (some ⟨b, o, none⟩) (j + 1) s1, .slice (some ⟨b', o', none⟩) (l + 1) s2] := by
      have h := Known.made (w4.drewN nq) 34 #[.slice (some ⟨b, o, none⟩) (j + 1) s1, .slice (some ⟨b', o', none⟩) (l + 1) s2]
      rw [hsz] at h; exact h
    have ha : Below (w4.drewN nq).heap.size (w4.drewN nq) ((w4.drewN nq).alloc (.cells #[.slice (some ⟨b, o, none⟩) (j + 1) s1, .slice (some ⟨b', o', none⟩) (l + 1) s2] 34)) := (Below.refl _ _).alloc (Nat.le_refl _) _
    have hk : (j + 1) + (l + 1) = nz := by rw [← L1.out, ← L2.out, ← List.length_append, EQ.out, L3.out]
    have hc := concat_t w4.heap.size ((j + 1)) ((l + 1)) nz s1 s2 (some ⟨b, o, none⟩) (some ⟨b', o', none⟩) (xp ++ [(p0, p1, p2)]) ((q0, q1, q2) :: yt) ((w4.drewN nq).alloc (.cells #[.slice (some ⟨b, o, none⟩) (j + 1) s1, .slice (some ⟨b', o', none⟩) (l + 1) s2] 34)) L1.out L2.out hk (by omega) (by omega) (kn.lt) (kn.cell 0) (kn.cell 1) (((X4.out.later ((Drawn.refl w4).more nq |>.below _)).rds).below ha) (((Y4.out.later ((Drawn.refl w4).more nq |>.below _)).rds).below ha)
    have HC := Lib.hid hc
    have HA := Lib.hid ha
    clear kn ha hc hk hsz
    go_wp2_with fail
    (with_reducible refine HC.out.mono ?_)
    rintro e w5 ⟨A5, c5, rfl, hT5, hb5⟩
    have hb6 := HA.out.trans (hb5.mono HA.out.size)
    have T5 := Lib.hid hT5.rds
    have B5 := Lib.hid ((below_drewN HB4.out nq).trans (hb6.mono (below_drewN HB4.out nq).size))
    have Z5 := Lib.hid (((T3.out.later ((Drawn.refl w4).more nq |>.below _)).rds).below hb6)
    clear hT5 hb5 hb6
    go_wp2_with fail
    refine (equalEx_c A5 A3 ((xp ++ [(p0, p1, p2)]) ++ ((q0, q1, q2) :: yt)) zs nz nz c5 s3 _ (by rw [EQ.out]; exact L3.out) L3.out (by omega) T5.out Z5.out).mono ?_
    rintro e w6 ⟨rfl, hb6⟩
    rw [show eqEx ((xp ++ [(p0, p1, p2)]) ++ ((q0, q1, q2) :: yt)) zs = true from decide_eq_true EQ.out]
    have B6 := Lib.hid (B5.out.trans (hb6.mono B5.out.size))
    clear hb6
    go_wp2
    go_ret
    exact ⟨rfl, below_box B6.out⟩
set_option maxRecDepth 100000 in
set_option maxHeartbeats 8000000 in
theorem meet (u w d : Int) (n a b nz : Nat) (V : World) (zs : List Ex) (h1 : n ≤ 1099511627776) (h2 : a ≤ 1073741824) (h3 : b ≤ 1073741824) (xp yt : List Ex) (p0 p1 p2 q1 q2 j l : Nat) (hx : j ≤ 1073741824) (hy : l ≤ 1073741824) (hz : nz ≤ 2147483648) (hp : p1 + p2 ≤ 2199023255552) (hq : q2 ≤ 2199023255552) (hq1 : p1 + p2 = q1)
    (H1 : Hid (∀ V, Calls Try.prog 15 #[.agg #[.int .i64 u, .int .i64 w, .int .i64 d], .int .i64 n, .int .i64 a] V (ExOut (xp ++ [(p0, p1, p2)]) V))) (H2 : Hid (∀ V, Calls Try.prog 15 #[.agg #[.int .i64 u, .int .i64 w, .int .i64 d], .int .i64 ((n : Int) + (a : Int)), .int .i64 b] V (ExOut ((p0, q1, q2) :: yt) V))) (H3 : Hid (∀ V, Calls Try.prog 15 #[.agg #[.int .i64 u, .int .i64 w, .int .i64 d], .int .i64 n, .int .i64 ((a : Int) + (b : Int))] V (ExOut zs V)))
    (L1 : Hid ((xp ++ [(p0, p1, p2)]).length = j + 1)) (L2 : Hid (((p0, q1, q2) :: yt).length = l + 1)) (L3 : Hid (zs.length = nz))
    (EQ : Hid ((xp ++ [(p0, p1, p2 + q2)]) ++ yt = zs)) : Calls Try.prog 7 #[.agg #[.int .i64 u, .int .i64 w, .int .i64 d], .int .i64 n, .int .i64 a, .int .i64 b] V (Law.Yes V) := by
  have x1 : IntKind.i64.wrap (((j + 1 : Nat) : Int) - 1) = (j : Int) := by rw [IntWalk.i64_in _ (by omega)]; omega
  have x2 : IntKind.i64.wrap ((j : Int) + 1 - 1) = (j : Int) := by rw [IntWalk.i64_in _ (by omega)]; omega
  have x3 : IntKind.i64.wrap ((p1 : Int) + (p2 : Int)) = (p1 : Int) + (p2 : Int) := IntWalk.i64_in _ (by omega)
  have d5 : decide ((0 : Int) < (j : Int) + 1) = true := by rw [decide_eq_true_iff]; omega
  have d6 : decide ((0 : Int) < (l : Int) + 1) = true := by rw [decide_eq_true_iff]; omega
  have LP : Hid (xp.length = j) := Lib.hid (by have := L1.out; simpa using this)
  have n2 : ((p1 : Int) + (p2 : Int) == (q1 : Int)) = true := by rw [beq_iff_eq]; omega
  clear hq1
  have x4 : IntKind.i64.wrap ((p2 : Int) + (q2 : Int)) = (p2 : Int) + (q2 : Int) := IntWalk.i64_in _ (by omega)
  have LX : Hid ((xp ++ [(p0, p1, p2 + q2)]).length = j + 1) := Lib.hid (by simp [LP.out])
  go_enter Try.func7, Try.ntmps7
  go_wp2_with fail
  refine (alive_c _).mono ?_
  rintro e w1 ⟨rfl, hb⟩
  obtain ⟨c0, c1, c2⟩ := box_cells hb
  have HB1 := Lib.hid hb
  clear hb
  go_wp2_with fail
  refine (H1.out _).mono ?_
  rintro e w2 ⟨A1, s1, rfl, hs1, hT1, hb⟩
  have hb' := HB1.out.trans (hb.mono HB1.out.size)
  obtain ⟨d0, d1, d2⟩ := box_cells hb'
  have HB2 := Lib.hid hb'
  have G1 := Lib.hid hb
  rw [L1.out] at hT1 hs1 ⊢
  have T1 := Lib.hid hT1
  clear hb hb' hT1 c0 c1 c2
  go_wp2_with fail
  refine (H2.out _).mono ?_
  rintro e w3 ⟨A2, s2, rfl, hs2, hT2, hb⟩
  have hb' := HB2.out.trans (hb.mono HB2.out.size)
  obtain ⟨e0, e1, e2⟩ := box_cells hb'
  have HB3 := Lib.hid hb'
  have G2 := Lib.hid hb
  rw [L2.out] at hT2 hs2 ⊢
  have T2 := Lib.hid hT2
  clear hb hb' hT2 d0 d1 d2
  go_wp2_with fail
  refine (H3.out _).mono ?_
  rintro e w4 ⟨A3, s3, rfl, hs3, hT3, hb⟩
  have hb' := HB3.out.trans (hb.mono HB3.out.size)
  obtain ⟨f0, f1, f2⟩ := box_cells hb'
  have HB4 := Lib.hid hb'
  have G3 := Lib.hid hb
  rw [L3.out] at hT3 hs3 ⊢
  have T3 := Lib.hid hT3
  clear hb hb' hT3 e0 e1 e2
  have X4 := Lib.hid ((T1.out.later G2.out).later G3.out)
  have Y4 := Lib.hid (T2.out.later G3.out)
  clear f0 f1 f2 H1 H2 H3
  obtain ⟨gx, rfl, -, gxb, gxl⟩ := X4.out.head (by simp)
  obtain ⟨gy, rfl, -, gyb, gyl⟩ := Y4.out.head (by simp)
  have gne : gx ≠ gy := by
    obtain ⟨gx', ex, -, -, gxl'⟩ := T1.out.head (by simp)
    injection ex with ex; injection ex with ex; subst ex
    omega
  obtain ⟨b, o, e, -, x0, x1', x2'⟩ := X4.out.rds xp.length (p0, p1, p2) (by rw [List.getElem?_append_right (Nat.le_refl _), Nat.sub_self]; rfl)
  injection e with e
  injection e with e3 e4
  subst e3 e4
  obtain ⟨b, o, e, -, y0, y1, y2⟩ := Y4.out.rds 0 (p0, q1, q2) rfl
  injection e with e
  injection e with e3 e4
  subst e3 e4
  rw [Nat.zero_mul, Nat.add_zero] at y0 y1 y2
  rw [LP.out, Nat.zero_add] at x0 x1' x2'
  have gxl1 : gx < w2.heap.size := by
    obtain ⟨gx', ex, -, -, gxl'⟩ := T1.out.head (by simp)
    injection ex with ex; injection ex with ex; subst ex
    exact gxl'
  have sz23 := G2.out.size
  have hbv := HB1.out.size
  have l2 : l + 1 ≤ s2 := hs2
  have key : ∀ q, ETab ((w4.drewN q).setCell ⟨gx, j * 3 + 2, none⟩ (.int .i64 ((p2 : Int) + (q2 : Int)))) w1.heap.size (.slice (some ⟨gx, 0, none⟩) (j + 1) s1) (xp ++ [(p0, p1, p2 + q2)]) ∧ ERds ((w4.drewN q).setCell ⟨gx, j * 3 + 2, none⟩ (.int .i64 ((p2 : Int) + (q2 : Int)))) (some ⟨gy, 0 + 3, none⟩) yt ∧ ETab ((w4.drewN q).setCell ⟨gx, j * 3 + 2, none⟩ (.int .i64 ((p2 : Int) + (q2 : Int)))) w3.heap.size (.slice A3 nz s3) zs ∧ Below (V.alloc (.cells #[.int .i64 u, .int .i64 w, .int .i64 d] 23)).heap.size (V.alloc (.cells #[.int .i64 u, .int .i64 w, .int .i64 d] 23)) ((w4.drewN q).setCell ⟨gx, j * 3 + 2, none⟩ (.int .i64 ((p2 : Int) + (q2 : Int)))) := fun q => by
    have hd : Below w4.heap.size w4 (w4.drewN q) := ((Drawn.refl w4).more q).below _
    have h1 := (X4.out.later hd).grow (by rw [LP.out]) (p2 + q2)
    rw [LP.out, Int.natCast_add] at h1
    refine ⟨h1, ((Y4.out.later hd).off (p := ⟨gx, j * 3 + 2, none⟩) (fun g hg => ?_) _).rds.tail, (T3.out.later hd).off (p := ⟨gx, j * 3 + 2, none⟩) (fun g hg => ?_) _, (below_drewN HB4.out q).setCell (p := ⟨gx, j * 3 + 2, none⟩) (Nat.le_trans hbv gxb) _⟩
    · have h2 : gy = g := by injection hg
      show g ≠ gx
      omega
    · have := (T3.out.lt g hg).1
      show g ≠ gx
      omega
  have KEY := Lib.hid key
  have fx : w4.frozen? ⟨gx, j * 3 + 2, none⟩ = false := X4.out.free (by simp [LP.out]) _
  go_wp2
  go_quiet (fail)
  go_wp2
  have x5 : IntKind.i64.wrap (j : Int) = (j : Int) := IntWalk.i64_in _ (by omega)
  have x6 : (j : Int) < (j : Int) + 1 := by omega
  have x7 : (0 : Int) ≤ (j : Int) := by omega
  have x8 : (0 : Int) < (l : Int) + 1 := by omega
  refine Mem.region_tail 13 (by kernel_rfl) (by kernel_rfl) ?_
  simp only [List.take_succ_cons, List.take_zero, List.drop_succ_cons, List.drop_zero]
  repeat still_step
  refine wpStill_nil ?_
  clear x5 x6 x7 x8 gne gxl1 sz23 hbv key gyb gyl gxb gxl
  go_wp2_with fail
  case inl =>
    have l0 : l = 0 := by omega
    obtain rfl : yt = [] := List.eq_nil_of_length_eq_zero (by have := L2.out; simp at this; omega)
    have LY : Hid (([] : List Ex).length = l) := Lib.hid (by simp; omega)
    obtain ⟨X5, Y5, Z5', B5'⟩ := KEY.out (nq + 1)
    have B5h := Lib.hid B5'
    have hsz : ((w4.drewN (nq + 1)).setCell ⟨gx, j * 3 + 2, none⟩ (.int .i64 ((p2 : Int) + (q2 : Int)))).heap.size = w4.heap.size := by simp [World.setCell]
    have kn : Known (((w4.drewN (nq + 1)).setCell ⟨gx, j * 3 + 2, none⟩ (.int .i64 ((p2 : Int) + (q2 : Int)))).alloc (.cells #[.slice (some ⟨gx, 0, none⟩) (j + 1) s1, .slice (some ⟨gy, 0, none⟩) l 0] 34)) w4.heap.size 34 #[.slice (some ⟨gx, 0, none⟩) (j + 1) s1, .slice (some ⟨gy, 0, none⟩) l 0] := by
      have h := Known.made ((w4.drewN (nq + 1)).setCell ⟨gx, j * 3 + 2, none⟩ (.int .i64 ((p2 : Int) + (q2 : Int)))) 34 #[.slice (some ⟨gx, 0, none⟩) (j + 1) s1, .slice (some ⟨gy, 0, none⟩) l 0]
      rw [hsz] at h; exact h
    have ha : Below ((w4.drewN (nq + 1)).setCell ⟨gx, j * 3 + 2, none⟩ (.int .i64 ((p2 : Int) + (q2 : Int)))).heap.size ((w4.drewN (nq + 1)).setCell ⟨gx, j * 3 + 2, none⟩ (.int .i64 ((p2 : Int) + (q2 : Int)))) (((w4.drewN (nq + 1)).setCell ⟨gx, j * 3 + 2, none⟩ (.int .i64 ((p2 : Int) + (q2 : Int)))).alloc (.cells #[.slice (some ⟨gx, 0, none⟩) (j + 1) s1, .slice (some ⟨gy, 0, none⟩) l 0] 34)) := (Below.refl _ _).alloc (Nat.le_refl _) _
    have hk : (j + 1) + l = nz := by rw [← LX.out, ← LY.out, ← List.length_append, EQ.out, L3.out]
    have Y5 := ERds.nil (W := ((w4.drewN (nq + 1)).setCell ⟨gx, j * 3 + 2, none⟩ (.int .i64 ((p2 : Int) + (q2 : Int))))) (A := some ⟨gy, 0, none⟩)
    have hc := concat_t w4.heap.size ((j + 1)) (l) nz s1 0 (some ⟨gx, 0, none⟩) (some ⟨gy, 0, none⟩) (xp ++ [(p0, p1, p2 + q2)]) [] (((w4.drewN (nq + 1)).setCell ⟨gx, j * 3 + 2, none⟩ (.int .i64 ((p2 : Int) + (q2 : Int)))).alloc (.cells #[.slice (some ⟨gx, 0, none⟩) (j + 1) s1, .slice (some ⟨gy, 0, none⟩) l 0] 34)) LX.out LY.out hk (by omega) (by omega) (kn.lt) (kn.cell 0) (kn.cell 1) (X5.rds.below ha) (Y5.below ha)
    have HC := Lib.hid hc
    have HA := Lib.hid ha
    clear kn ha hc hk hsz
    (with_reducible refine HC.out.mono ?_)
    rintro e w5 ⟨A5, c5, rfl, hT5, hb5⟩
    have hb6 := HA.out.trans (hb5.mono HA.out.size)
    have T5 := Lib.hid hT5.rds
    have B5 := Lib.hid (B5h.out.trans (hb6.mono B5h.out.size))
    have Z5 := Lib.hid ((Z5'.rds).below hb6)
    clear hT5 hb5 hb6
    go_wp2_with fail
    refine (equalEx_c A5 A3 ((xp ++ [(p0, p1, p2 + q2)]) ++ []) zs nz nz c5 s3 _ (by rw [EQ.out]; exact L3.out) L3.out (by omega) T5.out Z5.out).mono ?_
    rintro e w6 ⟨rfl, hb6⟩
    rw [show eqEx ((xp ++ [(p0, p1, p2 + q2)]) ++ []) zs = true from decide_eq_true EQ.out]
    have B6 := Lib.hid (B5.out.trans (hb6.mono B5.out.size))
    clear hb6
    go_wp2
    go_ret
    exact ⟨rfl, below_box B6.out⟩
  case inr =>
    have LY : Hid (yt.length = l) := Lib.hid (by have := L2.out; simpa using this)
    obtain ⟨X5, Y5, Z5', B5'⟩ := KEY.out (nq + 1)
    have B5h := Lib.hid B5'
    have hsz : ((w4.drewN (nq + 1)).setCell ⟨gx, j * 3 + 2, none⟩ (.int .i64 ((p2 : Int) + (q2 : Int)))).heap.size = w4.heap.size := by simp [World.setCell]
    have kn : Known (((w4.drewN (nq + 1)).setCell ⟨gx, j * 3 + 2, none⟩ (.int .i64 ((p2 : Int) + (q2 : Int)))).alloc (.cells #[.slice (some ⟨gx, 0, none⟩) (j + 1) s1, .slice (some ⟨gy, 3, none⟩) l (s2 - 1)] 34)) w4.heap.size 34 #[.slice (some ⟨gx, 0, none⟩) (j + 1) s1, .slice (some ⟨gy, 3, none⟩) l (s2 - 1)] := by
      have h := Known.made ((w4.drewN (nq + 1)).setCell ⟨gx, j * 3 + 2, none⟩ (.int .i64 ((p2 : Int) + (q2 : Int)))) 34 #[.slice (some ⟨gx, 0, none⟩) (j + 1) s1, .slice (some ⟨gy, 3, none⟩) l (s2 - 1)]
      rw [hsz] at h; exact h
    have ha : Below ((w4.drewN (nq + 1)).setCell ⟨gx, j * 3 + 2, none⟩ (.int .i64 ((p2 : Int) + (q2 : Int)))).heap.size ((w4.drewN (nq + 1)).setCell ⟨gx, j * 3 + 2, none⟩ (.int .i64 ((p2 : Int) + (q2 : Int)))) (((w4.drewN (nq + 1)).setCell ⟨gx, j * 3 + 2, none⟩ (.int .i64 ((p2 : Int) + (q2 : Int)))).alloc (.cells #[.slice (some ⟨gx, 0, none⟩) (j + 1) s1, .slice (some ⟨gy, 3, none⟩) l (s2 - 1)] 34)) := (Below.refl _ _).alloc (Nat.le_refl _) _
    have hk : (j + 1) + l = nz := by rw [← LX.out, ← LY.out, ← List.length_append, EQ.out, L3.out]
    have hc := concat_t w4.heap.size ((j + 1)) (l) nz s1 (s2 - 1) (some ⟨gx, 0, none⟩) (some ⟨gy, 3, none⟩) (xp ++ [(p0, p1, p2 + q2)]) yt (((w4.drewN (nq + 1)).setCell ⟨gx, j * 3 + 2, none⟩ (.int .i64 ((p2 : Int) + (q2 : Int)))).alloc (.cells #[.slice (some ⟨gx, 0, none⟩) (j + 1) s1, .slice (some ⟨gy, 3, none⟩) l (s2 - 1)] 34)) LX.out LY.out hk (by omega) (by omega) (kn.lt) (kn.cell 0) (kn.cell 1) (X5.rds.below ha) (Y5.below ha)
    have HC := Lib.hid hc
    have HA := Lib.hid ha
    clear kn ha hc hk hsz
    (with_reducible refine HC.out.mono ?_)
    rintro e w5 ⟨A5, c5, rfl, hT5, hb5⟩
    have hb6 := HA.out.trans (hb5.mono HA.out.size)
    have T5 := Lib.hid hT5.rds
    have B5 := Lib.hid (B5h.out.trans (hb6.mono B5h.out.size))
    have Z5 := Lib.hid ((Z5'.rds).below hb6)
    clear hT5 hb5 hb6
    go_wp2_with fail
    refine (equalEx_c A5 A3 ((xp ++ [(p0, p1, p2 + q2)]) ++ yt) zs nz nz c5 s3 _ (by rw [EQ.out]; exact L3.out) L3.out (by omega) T5.out Z5.out).mono ?_
    rintro e w6 ⟨rfl, hb6⟩
    rw [show eqEx ((xp ++ [(p0, p1, p2 + q2)]) ++ yt) zs = true from decide_eq_true EQ.out]
    have B6 := Lib.hid (B5.out.trans (hb6.mono B5.out.size))
    clear hb6
    go_wp2
    go_ret
    exact ⟨rfl, below_box B6.out⟩
theorem good_bd {U W D n m : Nat} {s : List Ex} (h : Ok U W D) (hm : m ≤ 1099511627776) (G : Stripe.Good (objOf U W D) (frOf U W D) n m s) {e : Ex} (he : e ∈ s) : e.2.1 + e.2.2 ≤ 2199023255552 := by
  obtain ⟨j, hj, rfl⟩ := List.mem_iff_getElem.1 he
  obtain ⟨hU, hW, hD⟩ := h
  obtain ⟨g1, g2, _⟩ := G.2 j _ (List.getElem?_eq_getElem hj)
  have g3 := g2 0 (by omega)
  have k1 : U * D ≤ 1048576 * 1024 := mul_le (by omega) (by omega)
  have g4 := fr_lt (W := W) hU.1 hD.1 (n + tot (s.take j) + 0)
  have g5 : tot (s.take j) + s[j].2.2 ≤ m := by
    have h := G.1
    rw [← List.take_append_drop (j + 1) s, tot_app, List.take_succ_eq_append_getElem hj, tot_app, tot_one] at h
    omega
  rw [g3.2] at g4
  omega
theorem exts_bd {U W D n m : Nat} (h : Ok U W D) (hm : m ≤ 1099511627776) {e : Ex} (he : e ∈ exts U W D n m) : e.2.1 + e.2.2 ≤ 2199023255552 := good_bd h hm (grow_good n m) he
theorem main (U W D n a b : Nat) (V : World) (h : Ok U W D) (h1 : n ≤ 1099511627776) (h2 : a ≤ 1073741824) (h3 : b ≤ 1073741824) (r1 : RangeOk U n a) (r2 : RangeOk U ((n : Int) + a) b) (r3 : RangeOk U n ((a : Int) + b)) :
    Calls Try.prog 7 #[.agg #[.int .i64 U, .int .i64 W, .int .i64 D], .int .i64 n, .int .i64 a, .int .i64 b] V (Law.Yes V) := by
  obtain ⟨_, _, s1, t1⟩ := r1
  obtain ⟨_, _, s2, t2⟩ := r2
  obtain ⟨_, _, s3, t3⟩ := r3
  rw [← Int.natCast_add, divs] at t3
  rw [divs] at t1 t2
  have c1 := fun V => split_ok U W D n a V h (by omega) (by omega)
  have c2 := fun V => split_ok U W D (n + a) b V h (by omega) (by omega)
  have c3 := fun V => split_ok U W D n (a + b) V h (by omega) (by omega)
  rw [Int.natCast_add] at c2 c3
  have l1 : (exts U W D n a).length ≤ a := grow_len _ _
  have l2 : (exts U W D (n + a) b).length ≤ b := grow_len _ _
  have l3 : (exts U W D n (a + b)).length ≤ a + b := grow_len _ _
  have eq : exts U W D n (a + b) = join (exts U W D n a) (exts U W D (n + a) b) := grow_add _ _ _
  have bd1 : ∀ e ∈ exts U W D n a, e.2.1 + e.2.2 ≤ 2199023255552 := fun e he => exts_bd h (by omega) he
  have bd2 : ∀ e ∈ exts U W D (n + a) b, e.2.1 + e.2.2 ≤ 2199023255552 := fun e he => exts_bd h (by omega) he
  generalize exts U W D n a = xs at *
  generalize exts U W D (n + a) b = ys at *
  generalize exts U W D n (a + b) = zs at *
  rcases List.eq_nil_or_concat xs with hx | ⟨xp, ⟨p0, p1, p2⟩, hx⟩
  · subst hx
    rw [join_nil] at eq
    exact one U W D n a b zs.length V zs h1 h2 h3 [] ys 0 ys.length (by omega) (by omega) (by omega) (Lib.hid c1) (Lib.hid c2) (Lib.hid c3) (Lib.hid rfl) (Lib.hid rfl) (Lib.hid rfl) (Lib.hid (by rw [eq]; rfl)) (.inl rfl)
  · rw [List.concat_eq_append] at hx
    subst hx
    cases ys with
    | nil =>
      rw [join_nil'] at eq
      exact one U W D n a b zs.length V zs h1 h2 h3 _ [] (xp ++ [(p0, p1, p2)]).length 0 (by omega) (by omega) (by omega) (Lib.hid c1) (Lib.hid c2) (Lib.hid c3) (Lib.hid rfl) (Lib.hid rfl) (Lib.hid rfl) (Lib.hid (by rw [eq, List.append_nil])) (.inr rfl)
    | cons q yt =>
      obtain ⟨q0, q1, q2⟩ := q
      rw [join_snoc] at eq
      have e1 := bd1 (p0, p1, p2) (by simp)
      have e2 := bd2 (q0, q1, q2) (by simp)
      have m1 : xp.length + 1 ≤ a := by simpa using l1
      have m2 : yt.length + 1 ≤ b := by simpa using l2
      cases hm : meets (p0, p1, p2) (q0, q1, q2) with
      | false =>
        rw [hm, if_neg (by simp)] at eq
        exact apart U W D n a b zs.length V zs h1 h2 h3 xp yt p0 p1 p2 q0 q1 q2 xp.length yt.length (by omega) (by omega) (by omega) e1 (Lib.hid c1) (Lib.hid c2) (Lib.hid c3) (Lib.hid (by simp)) (Lib.hid (by simp)) (Lib.hid rfl) (Lib.hid (by rw [eq]; simp)) hm
      | true =>
        rw [hm, if_pos rfl] at eq
        have hm2 := hm
        unfold meets at hm2
        simp only [Bool.and_eq_true, beq_iff_eq] at hm2
        obtain ⟨rfl, m3⟩ := hm2
        have e3 : q2 ≤ 2199023255552 := by have : q1 + q2 ≤ 2199023255552 := e2; omega
        exact meet U W D n a b zs.length V zs h1 h2 h3 xp yt p0 p1 p2 q1 q2 xp.length yt.length (by omega) (by omega) (by omega) e1 e3 m3 (Lib.hid c1) (Lib.hid c2) (Lib.hid c3) (Lib.hid (by simp)) (Lib.hid (by simp)) (Lib.hid rfl) (Lib.hid (by rw [eq]; unfold longer; simp))
theorem any_of (U W D : Nat) (n a : Int) (h : Ok U W D) (ha : a ≤ 9223372036854775807) : ∃ k, Splits U W D n a (AnySplit k) ∧ (k = 0 → RangeOk U n a) := by
  by_cases hr : RangeOk U n a
  · refine ⟨0, fun V => ?_, fun _ => hr⟩
    obtain ⟨h1, h2, h3, h4⟩ := hr
    obtain ⟨m, rfl⟩ : ∃ m : Nat, a = m := ⟨a.toNat, by omega⟩
    obtain ⟨k, rfl⟩ : ∃ m : Nat, n = m := ⟨n.toNat, by omega⟩
    rw [divs] at h4
    refine (split_ok U W D k m V h (by omega) (by omega)).mono ?_
    rintro e w ⟨A, c, rfl, _, _, hb⟩
    exact ⟨A, _, c, rfl, hb⟩
  · refine ⟨2, fun V => (split_err _ _ _ _ _ 2 V (by omega) (fun V => wr_bad U W D n a V h ha hr)).mono ?_, fun h => by omega⟩
    rintro e w ⟨rfl, hb⟩
    exact ⟨none, 0, 0, rfl, hb⟩
theorem words (u w d n a b : Int) (V : World) :
    Calls Try.prog 7 #[.agg #[.int .i64 u, .int .i64 w, .int .i64 d], .int .i64 n, .int .i64 a, .int .i64 b] V (Law.Yes V) := by
  by_cases hr : (0 ≤ a ∧ a ≤ 1073741824) ∧ (0 ≤ b ∧ b ≤ 1073741824) ∧ 0 ≤ n ∧ n ≤ 1099511627776
  · by_cases h : OkZ u w d
    · obtain ⟨U, W, D, rfl, rfl, rfl, hok⟩ := h.n
      obtain ⟨k1, p1, e1⟩ := any_of U W D n a hok (by omega)
      obtain ⟨k2, p2, e2⟩ := any_of U W D (n + a) b hok (by omega)
      obtain ⟨k3, p3, e3⟩ := any_of U W D n (a + b) hok (by omega)
      by_cases hk : k1 = 0 ∧ k2 = 0 ∧ k3 = 0
      · obtain ⟨m, rfl⟩ : ∃ m : Nat, a = m := ⟨a.toNat, by omega⟩
        obtain ⟨k, rfl⟩ : ∃ m : Nat, n = m := ⟨n.toNat, by omega⟩
        obtain ⟨l, rfl⟩ : ∃ m : Nat, b = m := ⟨b.toNat, by omega⟩
        exact main U W D k m l V hok (by omega) (by omega) (by omega) (e1 hk.1) (e2 hk.2.1) (e3 hk.2.2)
      · exact errs _ _ _ _ _ _ k1 k2 k3 V hr (by omega) p1 p2 p3
    · have no : ∀ x y : Int, Splits u w d x y (AnySplit 1) := fun x y V => (split_err u w d x y 1 V (by omega) (fun V => wr_form u w d x y V h)).mono (by
        rintro e w ⟨rfl, hb⟩
        exact ⟨none, 0, 0, rfl, hb⟩)
      exact errs _ _ _ _ _ _ 1 1 1 V hr (.inl (by omega)) (no _ _) (no _ _) (no _ _)
  · exact off u w d n a b V hr
theorem walk {H : Type} {enc : TypeId × Value → H} {base : Nat} {W : World} {v0 : Value} {d0 : DataW H} {p0 : List MemPlace}
    (o0 : Value.okWide Try.prog W .any base 23 v0) (h0 : DataW.Trod enc Try.prog W 0 (fun _ => true) true 23 v0 d0 p0) (a1 : Int) (w1 : (Lit.int .i64 a1).wf = true) (a2 : Int) (w2 : (Lit.int .i64 a2).wf = true) (a3 : Int) (w3 : (Lit.int .i64 a3).wf = true) :
    Calls Try.prog 7 #[v0, .int .i64 a1, .int .i64 a2, .int .i64 a3] W (Law.Yes W) := by
  obtain ⟨u, w, z, rfl, _, _, _⟩ := open_layout o0 h0
  exact words u w z a1 a2 a3 W
theorem own : ownKnob Try.prog.godebug = none := by kernel_rfl
theorem laid : laidOutB Try.prog = true := by kernel_rfl
theorem pars : ∀ t ∈ Try.f7.params.toList, Try.prog.readableRec t = true ∧ t < Try.prog.types.size := by
  have h : Try.f7.params.toList.all (fun t => Try.prog.readableRec t && decide (t < Try.prog.types.size)) = true := by kernel_rfl
  intro t ht; have := List.all_eq_true.1 h t ht; simpa using this
theorem calls (H : Type) (enc : TypeId × Value → H) (W : World) (base : Nat) (args : Array Value) (ds : List (DataW H)) (before : List MemPlace)
    (hval : ∀ (j : Nat) t v, Try.f7.params[j]? = some t → args[j]? = some v → Value.okWide Try.prog W .any base t v)
    (hA : DataW.TrodAll enc Try.prog W 0 (fun _ => true) true Try.f7.params.toList args.toList ds before) :
    Calls Try.prog 7 args W (Law.Yes W) := by
  rw [Try.params7] at hA hval
  obtain ⟨v0, vs0, d0, ds0, p0, q0, hargs, rfl, rfl, h0, r0⟩ := trodAll_cons hA
  obtain ⟨v1, vs1, d1, ds1, p1, q1, rfl, rfl, rfl, h1, r1⟩ := trodAll_cons r0
  obtain ⟨v2, vs2, d2, ds2, p2, q2, rfl, rfl, rfl, h2, r2⟩ := trodAll_cons r1
  obtain ⟨v3, vs3, d3, ds3, p3, q3, rfl, rfl, rfl, h3, r3⟩ := trodAll_cons r2
  obtain ⟨rfl, rfl, rfl⟩ := trodAll_nil r3
  obtain rfl : args = #[v0, v1, v2, v3] := by cases args; simp_all
  obtain ⟨a1, rfl, rfl, rfl, w1⟩ := open_int Try.underlying3 (hval 1 3 v1 rfl rfl) h1
  obtain ⟨a2, rfl, rfl, rfl, w2⟩ := open_int Try.underlying3 (hval 2 3 v2 rfl rfl) h2
  obtain ⟨a3, rfl, rfl, rfl, w3⟩ := open_int Try.underlying3 (hval 3 3 v3 rfl rfl) h3
  exact walk (W := W) (hval 0 23 v0 rfl rfl) h0 a1 w1 a2 w2 a3 w3
theorem fnOf (H : Type) : ∀ ds : List (DataW H), ds.length = Try.f7.params.toList.length → Rows.stripePartsSpec.fn H ds = { results := [.lit (.bool true)], args := ds } := by
  intro ds h
  have h : ds.length = 4 := h
  obtain _ | ⟨x0, ds⟩ := ds
  · simp at h
  obtain _ | ⟨x1, ds⟩ := ds
  · simp at h
  obtain _ | ⟨x2, ds⟩ := ds
  · simp at h
  obtain _ | ⟨x3, ds⟩ := ds
  · simp at h
  obtain rfl : ds = [] := List.eq_nil_of_length_eq_zero (by simpa using h)
  rfl
set_option maxRecDepth 100000 in
theorem lifted (os : Os) (started : os.Started) (H : Type) (enc : TypeId × Value → H) :
    ReturnsInHanded {} Try.checked os 7 .any (Rows.stripePartsSpec.pre6 enc Try.prog Try.f7 Rows.stripePartsRow.domain false) (Rows.stripePartsSpec.post enc Try.prog Try.f7 false true false false) := by
  refine returnsInHanded_of_change (C := Try.checked) own started (by kernel_rfl) Try.func7
    (ChangeSpec.witness6 (enc := enc) (C := Try.checked) false ⟨#[], #[.agg #[.int .i64 0, .int .i64 0, .int .i64 0], .int .i64 0, .int .i64 0, .int .i64 0], []⟩ 8 (by kernel_rfl) (by kernel_rfl) (by kernel_rfl) (by kernel_rfl)) ?_
  intro W base args ds gs before hval hW _ _
  obtain ⟨p, q, hA, hV, rfl, hfz, hnd⟩ := id hW
  obtain ⟨rfl, rfl⟩ := trodVars_none hV
  exact Law.ending (C := Try.checked) (s := Rows.stripePartsSpec) laid pars rfl Try.underlying4 rfl (fnOf H) hW (calls H enc W base args ds p hval hA)
theorem over : Rows.stripePartsRow.holds Try.pinned (OpenSpec.ofChange Rows.stripePartsSpec) :=
  OpenClaim.holds_of_wide 7 Try.f7 rfl rfl rfl rfl rfl rfl rfl ⟨rfl, rfl, rfl, rfl, rfl⟩ rfl rfl rfl rfl rfl (by kernel_rfl) Try.func7 (by kernel_rfl)
    (of_decide_eq_true (by kernel_rfl)) (by unfold Func.isWrapper; first | (rw [if_pos (by decide +kernel)]; kernel_rfl) | (rw [if_neg (by decide +kernel)]; exact ⟨rfl, rfl⟩))
    (fun os started H enc _ => lifted os started H enc)
theorem proved : Rows.StripePartsSaid := over
end Go.Proofs.Ytlcbchpijijilaa.stripeParts
