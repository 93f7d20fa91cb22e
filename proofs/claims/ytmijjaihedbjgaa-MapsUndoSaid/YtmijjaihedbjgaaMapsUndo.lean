/-
  MapsUndo: for all maps m and steps s, the law MapsUndo answers true (what was applied can be undone, and what is undone be applied again), and its arguments read afterwards as before. No condition.
-/
import Derived.Test.YtmijjaihedbjgaaMpHold
namespace Go.Proofs.Ytmijjaihedbjgaa.mapsUndo
open Go.ChangeShapes Go.WideShapes Go.ChangeAt Go.RowKit
open Mem Mps
set_option linter.unusedVariables false
set_option linter.unusedSimpArgs false

theorem equal_same (A B : Option Addr) (xs : List Ch) (n ca cb : Nat) (W : World) (hn : xs.length = n) (hbig : n ≤ 5864062014805) (hx : CRds W A xs) (hy : CRds W B xs) :
    Calls Try.prog 12 #[.slice A n ca, .slice B n cb] W (Gave (.bool true) W) := by
  have h := equalCh_c A B xs xs n n ca cb W hn hn (by omega) hx hy
  rwa [show eqCh xs xs = true from decide_eq_true rfl] at h
/-- What the law's calls come to, as letters. -/
structure Ap (m1 : Int) (l : List Int) (n : Nat) (s1 : Int) (cs : List Ch) (q : Nat) (eM : Int) (lM : List Int) : Prop where
  ap : Says (apE (m1, l) (s1, cs)) (apM (m1, l) (s1, cs)) eM lM n 0
  len : lM.length = n
  un : Says (unE (eM, lM) (s1, cs)) (unM (eM, lM) (s1, cs)) m1 l n 0
  df : SaysS (dfE (m1, l) (eM, lM)) (dfS (m1, l) (eM, lM)) s1 cs q 0
structure Un (m1 : Int) (l : List Int) (n : Nat) (s1 : Int) (cs : List Ch) (eU : Int) (lU : List Int) : Prop where
  un : Says (unE (m1, l) (s1, cs)) (unM (m1, l) (s1, cs)) eU lU n 0
  len : lU.length = n
  ap : Says (apE (eU, lU) (s1, cs)) (apM (eU, lU) (s1, cs)) m1 l n 0
theorem ap_of {m1 : Int} {l : List Int} {n : Nat} {s1 : Int} {cs : List Ch} {q : Nat} (hn : l.length = n) (hq : cs.length = q) (h : apE (m1, l) (s1, cs) = 0) : Ap m1 l n s1 cs q (m1 + 1) (chL cs l) := by
  have e := apM_of h
  obtain ⟨u1, u2⟩ := apply_undo h
  obtain ⟨d1, d2⟩ := apply_diff h
  rw [e] at u1 u2 d1 d2
  have hl : (chL cs l).length = n := by rw [chL_len, hn]
  exact ⟨⟨h, e, hl⟩, hl, ⟨u1, u2, hn⟩, ⟨d1, d2, hq⟩⟩
theorem un_of {m1 : Int} {l : List Int} {n : Nat} {s1 : Int} {cs : List Ch} (hn : l.length = n) (h : unE (m1, l) (s1, cs) = 0) : Un m1 l n s1 cs (m1 - 1) (chL (cs.map flip) l) := by
  have e := unM_of h
  obtain ⟨u1, u2⟩ := undo_apply h
  rw [e] at u1 u2
  have hl : (chL (cs.map flip) l).length = n := by rw [chL_len, hn]
  exact ⟨⟨h, e, hl⟩, hl, ⟨u1, u2, hn⟩⟩
set_option maxRecDepth 100000 in
set_option maxHeartbeats 16000000 in
theorem go_y_n (m1 : Int) (A : Option Addr) (l : List Int) (n c : Nat) (s1 : Int) (C : Option Addr) (cs : List Ch) (q ca : Nat) (W : World) (hn : l.length = n) (hbig : n ≤ 17592186044416) (hx : Reads W A (ints l)) (hq : cs.length = q) (hqb : q ≤ 5864062014805) (hc : CRds W C cs)
    (eM : Int) (lM : List Int) (ha : Ap m1 l n s1 cs q eM lM) (k1 : Int) (hu : Says (unE (m1, l) (s1, cs)) (unM (m1, l) (s1, cs)) 0 [] 0 k1) (hu0 : k1 ≠ 0) :
    Calls Try.prog 6 #[.agg #[.int .i64 m1, .slice A n c], .agg #[.int .i64 s1, .slice C q ca]] W (Law.Yes W) := by
  have X0 := Lib.hid ((HM.new (e := m1) (n := n) (c := c) hx rfl).alloc (.cells #[.int .i64 s1, .slice C q ca] 27))
  have S0 := Lib.hid (HS.new (V := W.alloc (.cells #[.int .i64 m1, .slice A n c] 24)) (g := W.heap.size + 1) (e := s1) (n := q) (c := ca) (hc.below (below_alloc _ _)) (alloc2_size _ _))
  have B0 := Lib.hid (show Below W.heap.size W ((W.alloc (.cells #[.int .i64 m1, .slice A n c] 24)).alloc (.cells #[.int .i64 s1, .slice C q ca] 27)) from (below_alloc _ _).alloc (by simp) _)
  have HN := Lib.hid hn
  have HQ := Lib.hid hq
  have z1 : (s1 != s1) = false := by simp
  clear hn hx hq hc
  have HA := Lib.hid ha
  have HU := Lib.hid hu
  have y1 : (k1 != 0) = true := by simpa using hu0
  clear hu0
  clear ha hu
  go_enter Try.func6, Try.ntmps6
  obtain ⟨X_0, X_1, -⟩ := X0.out
  obtain ⟨S_0, S_1, -⟩ := S0.out
  go_wp2_with fail
  refine (alive_c _).mono ?_
  rintro e w1 ⟨rfl, hb⟩
  clear X_0 X_1 S_0 S_1
  have Xr1 := Lib.hid (X0.out.below hb)
  have Sr1 := Lib.hid (S0.out.below hb)
  have Br1 := Lib.hid (B0.out.trans (hb.mono B0.out.size))
  clear X0 S0
  clear hb
  obtain ⟨X_0, X_1, -⟩ := Xr1.out
  obtain ⟨S_0, S_1, -⟩ := Sr1.out
  go_wp2_with fail
  refine (apply_c _ _ l n _ _ _ cs q _ _ HN.out hbig Xr1.out.2.2 HQ.out hqb Sr1.out.2.2 eM lM n 0 HA.out.ap).mono ?_
  rintro e w2 ⟨A2, c2, rfl, hr, hb, -⟩
  clear X_0 X_1 S_0 S_1
  have Xr2 := Lib.hid (Xr1.out.below hb)
  have Sr2 := Lib.hid (Sr1.out.below hb)
  have Br2 := Lib.hid (Br1.out.trans (hb.mono Br1.out.size))
  clear Xr1 Sr1
  have Xa2 := Lib.hid (Xr2.out.alloc (.cells #[.int .i64 eM, .slice A2 n c2] 24))
  have Sa2 := Lib.hid (Sr2.out.alloc (.cells #[.int .i64 eM, .slice A2 n c2] 24))
  have Ba2 := Lib.hid (Br2.out.alloc Br2.out.size (.cells #[.int .i64 eM, .slice A2 n c2] 24))
  have Pa2 := Lib.hid (HM.new (e := eM) (n := n) (c := c2) hr (rfl : w2.heap.size = w2.heap.size))
  clear hr hb Xr2 Sr2
  obtain ⟨X_0, X_1, -⟩ := Xa2.out
  obtain ⟨S_0, S_1, -⟩ := Sa2.out
  obtain ⟨P_0, P_1, -⟩ := Pa2.out
  go_wp2_with fail
  refine (undo_c _ _ lM n _ _ _ cs q _ _ HA.out.len hbig Pa2.out.2.2 HQ.out hqb Sa2.out.2.2 m1 l n 0 HA.out.un).mono ?_
  rintro e w3 ⟨A3, c3, rfl, hr, hb, -⟩
  clear X_0 X_1 S_0 S_1 P_0 P_1
  have Xr3 := Lib.hid (Xa2.out.below hb)
  have Sr3 := Lib.hid (Sa2.out.below hb)
  have Pr3 := Lib.hid (Pa2.out.below hb)
  have Br3 := Lib.hid (Ba2.out.trans (hb.mono Ba2.out.size))
  clear Xa2 Sa2 Pa2
  have Xa3 := Lib.hid (Xr3.out.alloc (.cells #[.int .i64 m1, .slice A3 n c3] 24))
  have Sa3 := Lib.hid (Sr3.out.alloc (.cells #[.int .i64 m1, .slice A3 n c3] 24))
  have Pa3 := Lib.hid (Pr3.out.alloc (.cells #[.int .i64 m1, .slice A3 n c3] 24))
  have Ba3 := Lib.hid (Br3.out.alloc Br3.out.size (.cells #[.int .i64 m1, .slice A3 n c3] 24))
  have Qa3 := Lib.hid (HM.new (e := m1) (n := n) (c := c3) hr (rfl : w3.heap.size = w3.heap.size))
  clear hr hb Xr3 Sr3 Pr3
  obtain ⟨X_0, X_1, -⟩ := Xa3.out
  obtain ⟨S_0, S_1, -⟩ := Sa3.out
  obtain ⟨P_0, P_1, -⟩ := Pa3.out
  obtain ⟨Q_0, Q_1, -⟩ := Qa3.out
  go_wp2_with fail
  refine (diff_c _ _ l n _ _ _ lM n _ _ HN.out hbig Xa3.out.2.2 HA.out.len hbig Pa3.out.2.2 s1 cs q 0 HA.out.df).mono ?_
  rintro e w4 ⟨A4, c4, rfl, hr, hb, -⟩
  clear X_0 X_1 S_0 S_1 P_0 P_1 Q_0 Q_1
  have Xr4 := Lib.hid (Xa3.out.below hb)
  have Sr4 := Lib.hid (Sa3.out.below hb)
  have Pr4 := Lib.hid (Pa3.out.below hb)
  have Qr4 := Lib.hid (Qa3.out.below hb)
  have Br4 := Lib.hid (Ba3.out.trans (hb.mono Ba3.out.size))
  clear Xa3 Sa3 Pa3 Qa3
  have Xa4 := Lib.hid (Xr4.out.alloc (.cells #[.int .i64 s1, .slice A4 q c4] 27))
  have Sa4 := Lib.hid (Sr4.out.alloc (.cells #[.int .i64 s1, .slice A4 q c4] 27))
  have Pa4 := Lib.hid (Pr4.out.alloc (.cells #[.int .i64 s1, .slice A4 q c4] 27))
  have Qa4 := Lib.hid (Qr4.out.alloc (.cells #[.int .i64 s1, .slice A4 q c4] 27))
  have Ba4 := Lib.hid (Br4.out.alloc Br4.out.size (.cells #[.int .i64 s1, .slice A4 q c4] 27))
  have Da4 := Lib.hid (HS.new (e := s1) (n := q) (c := c4) hr (rfl : w4.heap.size = w4.heap.size))
  clear hr hb Xr4 Sr4 Pr4 Qr4
  obtain ⟨X_0, X_1, -⟩ := Xa4.out
  obtain ⟨S_0, S_1, -⟩ := Sa4.out
  obtain ⟨P_0, P_1, -⟩ := Pa4.out
  obtain ⟨Q_0, Q_1, -⟩ := Qa4.out
  obtain ⟨D_0, D_1, -⟩ := Da4.out
  go_wp2_with fail
  refine (same_c _ _ _ l n _ _ _ HN.out hbig Qa4.out.2.2 Xa4.out.2.2).mono ?_
  rintro e w5 ⟨rfl, hb⟩
  clear X_0 X_1 S_0 S_1 P_0 P_1 Q_0 Q_1 D_0 D_1
  have Xr5 := Lib.hid (Xa4.out.below hb)
  have Sr5 := Lib.hid (Sa4.out.below hb)
  have Pr5 := Lib.hid (Pa4.out.below hb)
  have Qr5 := Lib.hid (Qa4.out.below hb)
  have Dr5 := Lib.hid (Da4.out.below hb)
  have Br5 := Lib.hid (Ba4.out.trans (hb.mono Ba4.out.size))
  clear Xa4 Sa4 Pa4 Qa4 Da4
  clear hb
  obtain ⟨X_0, X_1, -⟩ := Xr5.out
  obtain ⟨S_0, S_1, -⟩ := Sr5.out
  obtain ⟨P_0, P_1, -⟩ := Pr5.out
  obtain ⟨Q_0, Q_1, -⟩ := Qr5.out
  obtain ⟨D_0, D_1, -⟩ := Dr5.out
  go_wp2_with fail
  refine (equal_same _ _ cs q _ _ _ HQ.out hqb Dr5.out.2.2 Sr5.out.2.2).mono ?_
  rintro e w6 ⟨rfl, hb⟩
  clear X_0 X_1 S_0 S_1 P_0 P_1 Q_0 Q_1 D_0 D_1
  have Xr6 := Lib.hid (Xr5.out.below hb)
  have Sr6 := Lib.hid (Sr5.out.below hb)
  have Pr6 := Lib.hid (Pr5.out.below hb)
  have Qr6 := Lib.hid (Qr5.out.below hb)
  have Dr6 := Lib.hid (Dr5.out.below hb)
  have Br6 := Lib.hid (Br5.out.trans (hb.mono Br5.out.size))
  clear Xr5 Sr5 Pr5 Qr5 Dr5
  clear hb
  obtain ⟨X_0, X_1, -⟩ := Xr6.out
  obtain ⟨S_0, S_1, -⟩ := Sr6.out
  obtain ⟨P_0, P_1, -⟩ := Pr6.out
  obtain ⟨Q_0, Q_1, -⟩ := Qr6.out
  obtain ⟨D_0, D_1, -⟩ := Dr6.out
  go_wp2_with fail
  refine (undo_c _ _ l n _ _ _ cs q _ _ HN.out hbig Xr6.out.2.2 HQ.out hqb Sr6.out.2.2 0 [] 0 k1 HU.out).mono ?_
  rintro e w7 ⟨A7, c7, rfl, hr, hb, -⟩
  clear X_0 X_1 S_0 S_1 P_0 P_1 Q_0 Q_1 D_0 D_1
  have Xr7 := Lib.hid (Xr6.out.below hb)
  have Sr7 := Lib.hid (Sr6.out.below hb)
  have Pr7 := Lib.hid (Pr6.out.below hb)
  have Qr7 := Lib.hid (Qr6.out.below hb)
  have Dr7 := Lib.hid (Dr6.out.below hb)
  have Br7 := Lib.hid (Br6.out.trans (hb.mono Br6.out.size))
  clear Xr6 Sr6 Pr6 Qr6 Dr6
  have Xa7 := Lib.hid (Xr7.out.alloc (.cells #[.int .i64 (0 : Int), .slice A7 0 c7] 24))
  have Sa7 := Lib.hid (Sr7.out.alloc (.cells #[.int .i64 (0 : Int), .slice A7 0 c7] 24))
  have Pa7 := Lib.hid (Pr7.out.alloc (.cells #[.int .i64 (0 : Int), .slice A7 0 c7] 24))
  have Qa7 := Lib.hid (Qr7.out.alloc (.cells #[.int .i64 (0 : Int), .slice A7 0 c7] 24))
  have Da7 := Lib.hid (Dr7.out.alloc (.cells #[.int .i64 (0 : Int), .slice A7 0 c7] 24))
  have Ba7 := Lib.hid (Br7.out.alloc Br7.out.size (.cells #[.int .i64 (0 : Int), .slice A7 0 c7] 24))
  have Ua7 := Lib.hid (HM.new (e := (0 : Int)) (n := 0) (c := c7) hr (rfl : w7.heap.size = w7.heap.size))
  clear hr hb Xr7 Sr7 Pr7 Qr7 Dr7
  obtain ⟨X_0, X_1, -⟩ := Xa7.out
  obtain ⟨S_0, S_1, -⟩ := Sa7.out
  obtain ⟨P_0, P_1, -⟩ := Pa7.out
  obtain ⟨Q_0, Q_1, -⟩ := Qa7.out
  obtain ⟨D_0, D_1, -⟩ := Da7.out
  obtain ⟨U_0, U_1, -⟩ := Ua7.out
  go_wp2
  go_ret
  exact ⟨rfl, Ba7.out⟩
set_option maxRecDepth 100000 in
set_option maxHeartbeats 16000000 in
theorem go_n_y (m1 : Int) (A : Option Addr) (l : List Int) (n c : Nat) (s1 : Int) (C : Option Addr) (cs : List Ch) (q ca : Nat) (W : World) (hn : l.length = n) (hbig : n ≤ 17592186044416) (hx : Reads W A (ints l)) (hq : cs.length = q) (hqb : q ≤ 5864062014805) (hc : CRds W C cs)
    (k0 : Int) (ha : Says (apE (m1, l) (s1, cs)) (apM (m1, l) (s1, cs)) 0 [] 0 k0) (ha0 : k0 ≠ 0) (eU : Int) (lU : List Int) (hu : Un m1 l n s1 cs eU lU) :
    Calls Try.prog 6 #[.agg #[.int .i64 m1, .slice A n c], .agg #[.int .i64 s1, .slice C q ca]] W (Law.Yes W) := by
  have X0 := Lib.hid ((HM.new (e := m1) (n := n) (c := c) hx rfl).alloc (.cells #[.int .i64 s1, .slice C q ca] 27))
  have S0 := Lib.hid (HS.new (V := W.alloc (.cells #[.int .i64 m1, .slice A n c] 24)) (g := W.heap.size + 1) (e := s1) (n := q) (c := ca) (hc.below (below_alloc _ _)) (alloc2_size _ _))
  have B0 := Lib.hid (show Below W.heap.size W ((W.alloc (.cells #[.int .i64 m1, .slice A n c] 24)).alloc (.cells #[.int .i64 s1, .slice C q ca] 27)) from (below_alloc _ _).alloc (by simp) _)
  have HN := Lib.hid hn
  have HQ := Lib.hid hq
  have z1 : (s1 != s1) = false := by simp
  clear hn hx hq hc
  have HA := Lib.hid ha
  have HU := Lib.hid hu
  have y0 : (k0 == 0) = false := by simpa using ha0
  clear ha0
  clear ha hu
  go_enter Try.func6, Try.ntmps6
  obtain ⟨X_0, X_1, -⟩ := X0.out
  obtain ⟨S_0, S_1, -⟩ := S0.out
  go_wp2_with fail
  refine (alive_c _).mono ?_
  rintro e w1 ⟨rfl, hb⟩
  clear X_0 X_1 S_0 S_1
  have Xr1 := Lib.hid (X0.out.below hb)
  have Sr1 := Lib.hid (S0.out.below hb)
  have Br1 := Lib.hid (B0.out.trans (hb.mono B0.out.size))
  clear X0 S0
  clear hb
  obtain ⟨X_0, X_1, -⟩ := Xr1.out
  obtain ⟨S_0, S_1, -⟩ := Sr1.out
  go_wp2_with fail
  refine (apply_c _ _ l n _ _ _ cs q _ _ HN.out hbig Xr1.out.2.2 HQ.out hqb Sr1.out.2.2 0 [] 0 k0 HA.out).mono ?_
  rintro e w2 ⟨A2, c2, rfl, hr, hb, -⟩
  clear X_0 X_1 S_0 S_1
  have Xr2 := Lib.hid (Xr1.out.below hb)
  have Sr2 := Lib.hid (Sr1.out.below hb)
  have Br2 := Lib.hid (Br1.out.trans (hb.mono Br1.out.size))
  clear Xr1 Sr1
  have Xa2 := Lib.hid (Xr2.out.alloc (.cells #[.int .i64 (0 : Int), .slice A2 0 c2] 24))
  have Sa2 := Lib.hid (Sr2.out.alloc (.cells #[.int .i64 (0 : Int), .slice A2 0 c2] 24))
  have Ba2 := Lib.hid (Br2.out.alloc Br2.out.size (.cells #[.int .i64 (0 : Int), .slice A2 0 c2] 24))
  have Pa2 := Lib.hid (HM.new (e := (0 : Int)) (n := 0) (c := c2) hr (rfl : w2.heap.size = w2.heap.size))
  clear hr hb Xr2 Sr2
  obtain ⟨X_0, X_1, -⟩ := Xa2.out
  obtain ⟨S_0, S_1, -⟩ := Sa2.out
  obtain ⟨P_0, P_1, -⟩ := Pa2.out
  go_wp2_with fail
  refine (undo_c _ _ l n _ _ _ cs q _ _ HN.out hbig Xa2.out.2.2 HQ.out hqb Sa2.out.2.2 eU lU n 0 HU.out.un).mono ?_
  rintro e w3 ⟨A3, c3, rfl, hr, hb, -⟩
  clear X_0 X_1 S_0 S_1 P_0 P_1
  have Xr3 := Lib.hid (Xa2.out.below hb)
  have Sr3 := Lib.hid (Sa2.out.below hb)
  have Pr3 := Lib.hid (Pa2.out.below hb)
  have Br3 := Lib.hid (Ba2.out.trans (hb.mono Ba2.out.size))
  clear Xa2 Sa2 Pa2
  have Xa3 := Lib.hid (Xr3.out.alloc (.cells #[.int .i64 eU, .slice A3 n c3] 24))
  have Sa3 := Lib.hid (Sr3.out.alloc (.cells #[.int .i64 eU, .slice A3 n c3] 24))
  have Pa3 := Lib.hid (Pr3.out.alloc (.cells #[.int .i64 eU, .slice A3 n c3] 24))
  have Ba3 := Lib.hid (Br3.out.alloc Br3.out.size (.cells #[.int .i64 eU, .slice A3 n c3] 24))
  have Ua3 := Lib.hid (HM.new (e := eU) (n := n) (c := c3) hr (rfl : w3.heap.size = w3.heap.size))
  clear hr hb Xr3 Sr3 Pr3
  obtain ⟨X_0, X_1, -⟩ := Xa3.out
  obtain ⟨S_0, S_1, -⟩ := Sa3.out
  obtain ⟨P_0, P_1, -⟩ := Pa3.out
  obtain ⟨U_0, U_1, -⟩ := Ua3.out
  go_wp2_with fail
  refine (apply_c _ _ lU n _ _ _ cs q _ _ HU.out.len hbig Ua3.out.2.2 HQ.out hqb Sa3.out.2.2 m1 l n 0 HU.out.ap).mono ?_
  rintro e w4 ⟨A4, c4, rfl, hr, hb, -⟩
  clear X_0 X_1 S_0 S_1 P_0 P_1 U_0 U_1
  have Xr4 := Lib.hid (Xa3.out.below hb)
  have Sr4 := Lib.hid (Sa3.out.below hb)
  have Pr4 := Lib.hid (Pa3.out.below hb)
  have Ur4 := Lib.hid (Ua3.out.below hb)
  have Br4 := Lib.hid (Ba3.out.trans (hb.mono Ba3.out.size))
  clear Xa3 Sa3 Pa3 Ua3
  have Xa4 := Lib.hid (Xr4.out.alloc (.cells #[.int .i64 m1, .slice A4 n c4] 24))
  have Sa4 := Lib.hid (Sr4.out.alloc (.cells #[.int .i64 m1, .slice A4 n c4] 24))
  have Pa4 := Lib.hid (Pr4.out.alloc (.cells #[.int .i64 m1, .slice A4 n c4] 24))
  have Ua4 := Lib.hid (Ur4.out.alloc (.cells #[.int .i64 m1, .slice A4 n c4] 24))
  have Ba4 := Lib.hid (Br4.out.alloc Br4.out.size (.cells #[.int .i64 m1, .slice A4 n c4] 24))
  have Va4 := Lib.hid (HM.new (e := m1) (n := n) (c := c4) hr (rfl : w4.heap.size = w4.heap.size))
  clear hr hb Xr4 Sr4 Pr4 Ur4
  obtain ⟨X_0, X_1, -⟩ := Xa4.out
  obtain ⟨S_0, S_1, -⟩ := Sa4.out
  obtain ⟨P_0, P_1, -⟩ := Pa4.out
  obtain ⟨U_0, U_1, -⟩ := Ua4.out
  obtain ⟨V_0, V_1, -⟩ := Va4.out
  go_wp2_with fail
  refine (same_c _ _ _ l n _ _ _ HN.out hbig Va4.out.2.2 Xa4.out.2.2).mono ?_
  rintro e w5 ⟨rfl, hb⟩
  clear X_0 X_1 S_0 S_1 P_0 P_1 U_0 U_1 V_0 V_1
  have Xr5 := Lib.hid (Xa4.out.below hb)
  have Sr5 := Lib.hid (Sa4.out.below hb)
  have Pr5 := Lib.hid (Pa4.out.below hb)
  have Ur5 := Lib.hid (Ua4.out.below hb)
  have Vr5 := Lib.hid (Va4.out.below hb)
  have Br5 := Lib.hid (Ba4.out.trans (hb.mono Ba4.out.size))
  clear Xa4 Sa4 Pa4 Ua4 Va4
  clear hb
  obtain ⟨X_0, X_1, -⟩ := Xr5.out
  obtain ⟨S_0, S_1, -⟩ := Sr5.out
  obtain ⟨P_0, P_1, -⟩ := Pr5.out
  obtain ⟨U_0, U_1, -⟩ := Ur5.out
  obtain ⟨V_0, V_1, -⟩ := Vr5.out
  go_wp2
  go_ret
  exact ⟨rfl, Br5.out⟩
set_option maxRecDepth 100000 in
set_option maxHeartbeats 16000000 in
theorem go_n_n (m1 : Int) (A : Option Addr) (l : List Int) (n c : Nat) (s1 : Int) (C : Option Addr) (cs : List Ch) (q ca : Nat) (W : World) (hn : l.length = n) (hbig : n ≤ 17592186044416) (hx : Reads W A (ints l)) (hq : cs.length = q) (hqb : q ≤ 5864062014805) (hc : CRds W C cs)
    (k0 : Int) (ha : Says (apE (m1, l) (s1, cs)) (apM (m1, l) (s1, cs)) 0 [] 0 k0) (ha0 : k0 ≠ 0) (k1 : Int) (hu : Says (unE (m1, l) (s1, cs)) (unM (m1, l) (s1, cs)) 0 [] 0 k1) (hu0 : k1 ≠ 0) :
    Calls Try.prog 6 #[.agg #[.int .i64 m1, .slice A n c], .agg #[.int .i64 s1, .slice C q ca]] W (Law.Yes W) := by
  have X0 := Lib.hid ((HM.new (e := m1) (n := n) (c := c) hx rfl).alloc (.cells #[.int .i64 s1, .slice C q ca] 27))
  have S0 := Lib.hid (HS.new (V := W.alloc (.cells #[.int .i64 m1, .slice A n c] 24)) (g := W.heap.size + 1) (e := s1) (n := q) (c := ca) (hc.below (below_alloc _ _)) (alloc2_size _ _))
  have B0 := Lib.hid (show Below W.heap.size W ((W.alloc (.cells #[.int .i64 m1, .slice A n c] 24)).alloc (.cells #[.int .i64 s1, .slice C q ca] 27)) from (below_alloc _ _).alloc (by simp) _)
  have HN := Lib.hid hn
  have HQ := Lib.hid hq
  have z1 : (s1 != s1) = false := by simp
  clear hn hx hq hc
  have HA := Lib.hid ha
  have HU := Lib.hid hu
  have y0 : (k0 == 0) = false := by simpa using ha0
  clear ha0
  have y1 : (k1 != 0) = true := by simpa using hu0
  clear hu0
  clear ha hu
  go_enter Try.func6, Try.ntmps6
  obtain ⟨X_0, X_1, -⟩ := X0.out
  obtain ⟨S_0, S_1, -⟩ := S0.out
  go_wp2_with fail
  refine (alive_c _).mono ?_
  rintro e w1 ⟨rfl, hb⟩
  clear X_0 X_1 S_0 S_1
  have Xr1 := Lib.hid (X0.out.below hb)
  have Sr1 := Lib.hid (S0.out.below hb)
  have Br1 := Lib.hid (B0.out.trans (hb.mono B0.out.size))
  clear X0 S0
  clear hb
  obtain ⟨X_0, X_1, -⟩ := Xr1.out
  obtain ⟨S_0, S_1, -⟩ := Sr1.out
  go_wp2_with fail
  refine (apply_c _ _ l n _ _ _ cs q _ _ HN.out hbig Xr1.out.2.2 HQ.out hqb Sr1.out.2.2 0 [] 0 k0 HA.out).mono ?_
  rintro e w2 ⟨A2, c2, rfl, hr, hb, -⟩
  clear X_0 X_1 S_0 S_1
  have Xr2 := Lib.hid (Xr1.out.below hb)
  have Sr2 := Lib.hid (Sr1.out.below hb)
  have Br2 := Lib.hid (Br1.out.trans (hb.mono Br1.out.size))
  clear Xr1 Sr1
  have Xa2 := Lib.hid (Xr2.out.alloc (.cells #[.int .i64 (0 : Int), .slice A2 0 c2] 24))
  have Sa2 := Lib.hid (Sr2.out.alloc (.cells #[.int .i64 (0 : Int), .slice A2 0 c2] 24))
  have Ba2 := Lib.hid (Br2.out.alloc Br2.out.size (.cells #[.int .i64 (0 : Int), .slice A2 0 c2] 24))
  have Pa2 := Lib.hid (HM.new (e := (0 : Int)) (n := 0) (c := c2) hr (rfl : w2.heap.size = w2.heap.size))
  clear hr hb Xr2 Sr2
  obtain ⟨X_0, X_1, -⟩ := Xa2.out
  obtain ⟨S_0, S_1, -⟩ := Sa2.out
  obtain ⟨P_0, P_1, -⟩ := Pa2.out
  go_wp2_with fail
  refine (undo_c _ _ l n _ _ _ cs q _ _ HN.out hbig Xa2.out.2.2 HQ.out hqb Sa2.out.2.2 0 [] 0 k1 HU.out).mono ?_
  rintro e w3 ⟨A3, c3, rfl, hr, hb, -⟩
  clear X_0 X_1 S_0 S_1 P_0 P_1
  have Xr3 := Lib.hid (Xa2.out.below hb)
  have Sr3 := Lib.hid (Sa2.out.below hb)
  have Pr3 := Lib.hid (Pa2.out.below hb)
  have Br3 := Lib.hid (Ba2.out.trans (hb.mono Ba2.out.size))
  clear Xa2 Sa2 Pa2
  have Xa3 := Lib.hid (Xr3.out.alloc (.cells #[.int .i64 (0 : Int), .slice A3 0 c3] 24))
  have Sa3 := Lib.hid (Sr3.out.alloc (.cells #[.int .i64 (0 : Int), .slice A3 0 c3] 24))
  have Pa3 := Lib.hid (Pr3.out.alloc (.cells #[.int .i64 (0 : Int), .slice A3 0 c3] 24))
  have Ba3 := Lib.hid (Br3.out.alloc Br3.out.size (.cells #[.int .i64 (0 : Int), .slice A3 0 c3] 24))
  have Ua3 := Lib.hid (HM.new (e := (0 : Int)) (n := 0) (c := c3) hr (rfl : w3.heap.size = w3.heap.size))
  clear hr hb Xr3 Sr3 Pr3
  obtain ⟨X_0, X_1, -⟩ := Xa3.out
  obtain ⟨S_0, S_1, -⟩ := Sa3.out
  obtain ⟨P_0, P_1, -⟩ := Pa3.out
  obtain ⟨U_0, U_1, -⟩ := Ua3.out
  go_wp2
  go_ret
  exact ⟨rfl, Ba3.out⟩
set_option maxRecDepth 100000 in
theorem walk {H : Type} {enc : TypeId × Value → H} {base : Nat} {W : World} {v0 : Value} {d0 : DataW H} {p0 : List MemPlace}
    (o0 : Value.okWide Try.prog W .any base 24 v0) (h0 : DataW.Trod enc Try.prog W 0 (fun _ => true) true 24 v0 d0 p0) {v1 : Value} {d1 : DataW H} {p1 : List MemPlace}
    (o1 : Value.okWide Try.prog W .any base 27 v1) (h1 : DataW.Trod enc Try.prog W 0 (fun _ => true) true 27 v1 d1 p1)
    (hz : (DataW.weightsEach Try.prog [24, 27] [d0, d1]).all (· ≤ reachBytes) = true) :
    Calls Try.prog 6 #[v0, v1] W (Law.Yes W) := by
  obtain ⟨m1, A, l, n, c, rfl, _, hn, hnb, hx⟩ := open_mapZ o0 h0 hz (j := 0) rfl rfl
  obtain ⟨s1, C, cs, q, ca, rfl, _, hq, hqb, hc⟩ := open_stepZ o1 h1 hz (j := 1) rfl rfl
  by_cases h : apE (m1, l) (s1, cs) = 0
  · by_cases h' : unE (m1, l) (s1, cs) = 0
    · have e1 := (apE_zero.1 h).2.2.2.1
      have e2 := (unE_zero.1 h').2.2.2.1
      simp only at e1 e2
      omega
    · exact go_y_n m1 A l n c s1 C cs q ca W hn hnb hx hq hqb hc _ _ (ap_of hn hq h) _ ⟨rfl, unM_bad h', rfl⟩ h'
  · by_cases h' : unE (m1, l) (s1, cs) = 0
    · exact go_n_y m1 A l n c s1 C cs q ca W hn hnb hx hq hqb hc _ ⟨rfl, apM_bad h, rfl⟩ h _ _ (un_of hn h')
    · exact go_n_n m1 A l n c s1 C cs q ca W hn hnb hx hq hqb hc _ ⟨rfl, apM_bad h, rfl⟩ h _ ⟨rfl, unM_bad h', rfl⟩ h'
theorem own : ownKnob Try.prog.godebug = none := by kernel_rfl
theorem laid : laidOutB Try.prog = true := by kernel_rfl
theorem pars : ∀ t ∈ Try.f6.params.toList, Try.prog.readableRec t = true ∧ t < Try.prog.types.size := by
  have h : Try.f6.params.toList.all (fun t => Try.prog.readableRec t && decide (t < Try.prog.types.size)) = true := by kernel_rfl
  intro t ht; have := List.all_eq_true.1 h t ht; simpa using this
set_option maxRecDepth 100000 in
theorem calls (H : Type) (enc : TypeId × Value → H) (W : World) (base : Nat) (args : Array Value) (ds : List (DataW H)) (before : List MemPlace)
    (hval : ∀ (j : Nat) t v, Try.f6.params[j]? = some t → args[j]? = some v → Value.okWide Try.prog W .any base t v)
    (hA : DataW.TrodAll enc Try.prog W 0 (fun _ => true) true Try.f6.params.toList args.toList ds before) (hz : (DataW.weightsEach Try.prog Try.f6.params.toList ds).all (· ≤ reachBytes) = true) :
    Calls Try.prog 6 args W (Law.Yes W) := by
  rw [Try.params6] at hA hval hz
  obtain ⟨v0, vs0, d0, ds0, p0, q0, hargs, rfl, rfl, h0, r0⟩ := trodAll_cons hA
  obtain ⟨v1, vs1, d1, ds1, p1, q1, rfl, rfl, rfl, h1, r1⟩ := trodAll_cons r0
  obtain ⟨rfl, rfl, rfl⟩ := trodAll_nil r1
  obtain rfl : args = #[v0, v1] := by cases args; simp_all
  exact walk (W := W) (hval 0 24 v0 rfl rfl) h0 (hval 1 27 v1 rfl rfl) h1 hz
theorem fnOf (H : Type) : ∀ ds : List (DataW H), ds.length = Try.f6.params.toList.length → Rows.mapsUndoSpec.fn H ds = { results := [.lit (.bool true)], args := ds } := by
  intro ds h
  have h : ds.length = 2 := h
  obtain _ | ⟨x0, ds⟩ := ds
  · simp at h
  obtain _ | ⟨x1, ds⟩ := ds
  · simp at h
  obtain rfl : ds = [] := List.eq_nil_of_length_eq_zero (by simpa using h)
  rfl
set_option maxRecDepth 100000 in
theorem lifted (os : Os) (started : os.Started) (H : Type) (enc : TypeId × Value → H) :
    ReturnsInHanded {} Try.checked os 6 .any (Rows.mapsUndoSpec.pre6 enc Try.prog Try.f6 Rows.mapsUndoRow.domain false) (Rows.mapsUndoSpec.post enc Try.prog Try.f6 false true false false) := by
  refine returnsInHanded_of_change_sized (C := Try.checked) own started (by kernel_rfl) Try.func6
    (ChangeSpec.witness6 (enc := enc) (C := Try.checked) false ⟨#[], #[.agg #[.int .i64 0, .slice none 0 0], .agg #[.int .i64 0, .slice none 0 0]], []⟩ 8 (by kernel_rfl) (by kernel_rfl) (by kernel_rfl) (by kernel_rfl)) ?_
  intro W base args ds gs before hval hW _ hz _
  obtain ⟨p, q, hA, hV, rfl, hfz, hnd⟩ := id hW
  obtain ⟨rfl, rfl⟩ := trodVars_none hV
  simp only [List.append_nil] at hz
  have hz2 : (DataW.weightsEach Try.prog Try.f6.params.toList ds).all (· ≤ reachBytes) = true := hz
  exact Law.ending (C := Try.checked) (s := Rows.mapsUndoSpec) laid pars rfl Try.underlying4 rfl (fnOf H) hW (calls H enc W base args ds p hval hA hz2)
theorem over : Rows.mapsUndoRow.holds Try.pinned (OpenSpec.ofChange Rows.mapsUndoSpec) :=
  OpenClaim.holds_of_wide 6 Try.f6 rfl rfl rfl rfl rfl rfl rfl ⟨rfl, rfl, rfl, rfl, rfl⟩ rfl rfl rfl rfl rfl (by kernel_rfl) Try.func6 (by kernel_rfl)
    (of_decide_eq_true (by kernel_rfl)) (by unfold Func.isWrapper; first | (rw [if_pos (by decide +kernel)]; kernel_rfl) | (rw [if_neg (by decide +kernel)]; exact ⟨rfl, rfl⟩))
    (fun os started H enc _ => lifted os started H enc)
theorem proved : Rows.MapsUndoSaid := over
end Go.Proofs.Ytmijjaihedbjgaa.mapsUndo
