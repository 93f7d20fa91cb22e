/-
  MapsApply: for all maps m, steps s and lists of steps l, the law MapsApply answers true (Apply, Undo and All answer what the document says), and its arguments read afterwards as before. No condition.
-/
import Derived.Test.YtmijjaihedbjgaaMpHold
namespace Go.Proofs.Ytmijjaihedbjgaa.mapsApply
open Go.ChangeShapes Go.WideShapes Go.ChangeAt Go.RowKit
open Mem Mps
set_option linter.unusedVariables false
set_option linter.unusedSimpArgs false

/-- What stands at the head of the law's loop. -/
def At (V : World) (m : Mp) (ls : List Sp) (k : Nat) (wr : World) : Prop :=
  ∃ (u1 : Int) (l : List Int) (n : Nat) (A : Option Addr) (c : Nat), l.length = n ∧ okM (u1, l) ∧ stE m ls = stE (u1, l) (ls.drop k) ∧ stM m ls = stM (u1, l) (ls.drop k) ∧
    Known wr V.heap.size 24 #[.int .i64 u1, .slice A n c] ∧ Reads wr A (ints l) ∧ Below V.heap.size V wr
theorem ap_le (m : Mp) (s : Sp) : (apM m s).2.length ≤ 400 := by
  by_cases h : apE m s = 0
  · exact (apM_ok h).2.2
  · rw [apM_bad h]; simp
theorem un_le (m : Mp) (s : Sp) : (unM m s).2.length ≤ 400 := by
  by_cases h : unE m s = 0
  · exact (unM_ok h).2.2
  · rw [unM_bad h]; simp
theorem al_le (m : Mp) (l : List Sp) : (alM m l).2.length ≤ 400 := by
  by_cases h : alE m l = 0
  · exact (alM_okM h).2.2
  · rw [alM_bad h]; simp
/-- What the law's calls come to, as letters. -/
structure Ap (m1 : Int) (l : List Int) (s1 : Int) (cs : List Ch) (ls : List Sp) (e1 : Int) (l1 : List Int) (n1 : Nat) (k1 : Int) (e2 : Int) (l2 : List Int) (n2 : Nat) (k2 : Int) (e0 : Int) (l0 : List Int) (n0 : Nat) (k0 : Int) : Prop where
  ap : Says (apE (m1, l) (s1, cs)) (apM (m1, l) (s1, cs)) e1 l1 n1 k1
  un : Says (unE (m1, l) (s1, cs)) (unM (m1, l) (s1, cs)) e2 l2 n2 k2
  al : Says (alE (m1, l) ls) (alM (m1, l) ls) e0 l0 n0 k0
  le1 : n1 ≤ 400
  le2 : n2 ≤ 400
  le0 : n0 ≤ 400
set_option maxRecDepth 100000 in
set_option maxHeartbeats 16000000 in
theorem bad (m1 : Int) (A : Option Addr) (l : List Int) (n c : Nat) (s1 : Int) (C : Option Addr) (cs : List Ch) (q ca : Nat) (S : Option Addr) (ls : List Sp) (p cp : Nat) (W : World) (hn : l.length = n) (hbig : n ≤ 17592186044416) (hx : Reads W A (ints l)) (hq : cs.length = q) (hqb : q ≤ 5864062014805) (hc : CRds W C cs) (hfs : Fit s1)
    (hp : ls.length = p) (hpb : p ≤ 4398046511104) (hs : SRds W S ls) (hfl : FitsS ls)
    (e1 : Int) (l1 : List Int) (n1 : Nat) (k1 : Int) (e2 : Int) (l2 : List Int) (n2 : Nat) (k2 : Int) (e0 : Int) (l0 : List Int) (n0 : Nat) (k0 : Int) (hw : Ap m1 l s1 cs ls e1 l1 n1 k1 e2 l2 n2 k2 e0 l0 n0 k0) (h1 : okB m1 n = false) (h0 : e0 = 0 ∧ l0 = [] ∧ n0 = 0 ∧ k0 = 1) :
    Calls Try.prog 4 #[.agg #[.int .i64 m1, .slice A n c], .agg #[.int .i64 s1, .slice C q ca], .slice S p cp] W (Law.Yes W) := by
  obtain ⟨rfl, rfl, rfl, rfl⟩ := h0
  have X0 := Lib.hid ((HM.new (e := m1) (n := n) (c := c) hx rfl).alloc (.cells #[.int .i64 s1, .slice C q ca] 27))
  have T0 := Lib.hid (HS.new (V := W.alloc (.cells #[.int .i64 m1, .slice A n c] 24)) (g := W.heap.size + 1) (e := s1) (n := q) (c := ca) (hc.below (below_alloc _ _)) (alloc2_size _ _))
  have B0 := Lib.hid (show Below W.heap.size W ((W.alloc (.cells #[.int .i64 m1, .slice A n c] 24)).alloc (.cells #[.int .i64 s1, .slice C q ca] 27)) from (below_alloc _ _).alloc (by simp) _)
  have L0 := Lib.hid (hs.below B0.out)
  have HN := Lib.hid hn
  have HQ := Lib.hid hq
  have HP := Lib.hid hp
  have FT := Lib.hid hfs
  have FL := Lib.hid hfl
  have HW := Lib.hid hw
  have M1 := Lib.hid (show l1.length = n1 from hw.ap.2.2)
  have M2 := Lib.hid (show l2.length = n2 from hw.un.2.2)
  have z1 : (k1 != k1) = false := by simp
  have z2 : (k2 != k2) = false := by simp
  have z3 : ((1 : Int) == 1) = true := by simp
  clear hn hx hq hc hs hp hfs hfl hw
  have LR := Lib.hid (fun V => lright_c m1 A n c V false h1)
  clear h1
  go_enter Try.func4, Try.ntmps4
  obtain ⟨X_0, X_1, -⟩ := X0.out
  obtain ⟨T_0, T_1, -⟩ := T0.out
  go_wp2_with fail
  refine (apply_c _ _ l n _ _ _ cs q _ _ HN.out hbig X0.out.2.2 HQ.out hqb T0.out.2.2 e1 l1 n1 k1 HW.out.ap).mono ?_
  rintro e w1 ⟨A1, c1, rfl, hr, hb, -⟩
  clear X_0 X_1 T_0 T_1
  have Xr1 := Lib.hid (X0.out.below hb)
  have Tr1 := Lib.hid (T0.out.below hb)
  have Lr1 := Lib.hid (L0.out.below hb)
  have Br1 := Lib.hid (B0.out.trans (hb.mono B0.out.size))
  clear X0 T0 L0
  have Xa1 := Lib.hid (Xr1.out.alloc (.cells #[.int .i64 e1, .slice A1 n1 c1] 24))
  have Ta1 := Lib.hid (Tr1.out.alloc (.cells #[.int .i64 e1, .slice A1 n1 c1] 24))
  have La1 := Lib.hid (Lr1.out.alloc (.cells #[.int .i64 e1, .slice A1 n1 c1] 24))
  have Ba1 := Lib.hid (Br1.out.alloc Br1.out.size (.cells #[.int .i64 e1, .slice A1 n1 c1] 24))
  have Pa1 := Lib.hid (HM.new (e := e1) (n := n1) (c := c1) hr (rfl : w1.heap.size = w1.heap.size))
  clear hr hb Xr1 Tr1 Lr1
  obtain ⟨X_0, X_1, -⟩ := Xa1.out
  obtain ⟨T_0, T_1, -⟩ := Ta1.out
  obtain ⟨P_0, P_1, -⟩ := Pa1.out
  go_wp2_with fail
  refine (lgo_forth _ _ l n _ _ _ cs q _ _ HN.out hbig Xa1.out.2.2 HQ.out hqb Ta1.out.2.2 FT.out e1 l1 n1 k1 HW.out.ap).mono ?_
  rintro e w2 ⟨A2, c2, rfl, hr, hb, -⟩
  clear X_0 X_1 T_0 T_1 P_0 P_1
  have Xr2 := Lib.hid (Xa1.out.below hb)
  have Tr2 := Lib.hid (Ta1.out.below hb)
  have Pr2 := Lib.hid (Pa1.out.below hb)
  have Lr2 := Lib.hid (La1.out.below hb)
  have Br2 := Lib.hid (Ba1.out.trans (hb.mono Ba1.out.size))
  clear Xa1 Ta1 Pa1 La1
  have Xa2 := Lib.hid (Xr2.out.alloc (.cells #[.int .i64 e1, .slice A2 n1 c2] 24))
  have Ta2 := Lib.hid (Tr2.out.alloc (.cells #[.int .i64 e1, .slice A2 n1 c2] 24))
  have Pa2 := Lib.hid (Pr2.out.alloc (.cells #[.int .i64 e1, .slice A2 n1 c2] 24))
  have La2 := Lib.hid (Lr2.out.alloc (.cells #[.int .i64 e1, .slice A2 n1 c2] 24))
  have Ba2 := Lib.hid (Br2.out.alloc Br2.out.size (.cells #[.int .i64 e1, .slice A2 n1 c2] 24))
  have Qa2 := Lib.hid (HM.new (e := e1) (n := n1) (c := c2) hr (rfl : w2.heap.size = w2.heap.size))
  clear hr hb Xr2 Tr2 Pr2 Lr2
  obtain ⟨X_0, X_1, -⟩ := Xa2.out
  obtain ⟨T_0, T_1, -⟩ := Ta2.out
  obtain ⟨P_0, P_1, -⟩ := Pa2.out
  obtain ⟨Q_0, Q_1, -⟩ := Qa2.out
  go_wp2_with fail
  refine (undo_c _ _ l n _ _ _ cs q _ _ HN.out hbig Xa2.out.2.2 HQ.out hqb Ta2.out.2.2 e2 l2 n2 k2 HW.out.un).mono ?_
  rintro e w3 ⟨A3, c3, rfl, hr, hb, -⟩
  clear X_0 X_1 T_0 T_1 P_0 P_1 Q_0 Q_1
  have Xr3 := Lib.hid (Xa2.out.below hb)
  have Tr3 := Lib.hid (Ta2.out.below hb)
  have Pr3 := Lib.hid (Pa2.out.below hb)
  have Qr3 := Lib.hid (Qa2.out.below hb)
  have Lr3 := Lib.hid (La2.out.below hb)
  have Br3 := Lib.hid (Ba2.out.trans (hb.mono Ba2.out.size))
  clear Xa2 Ta2 Pa2 Qa2 La2
  have Xa3 := Lib.hid (Xr3.out.alloc (.cells #[.int .i64 e2, .slice A3 n2 c3] 24))
  have Ta3 := Lib.hid (Tr3.out.alloc (.cells #[.int .i64 e2, .slice A3 n2 c3] 24))
  have Pa3 := Lib.hid (Pr3.out.alloc (.cells #[.int .i64 e2, .slice A3 n2 c3] 24))
  have Qa3 := Lib.hid (Qr3.out.alloc (.cells #[.int .i64 e2, .slice A3 n2 c3] 24))
  have La3 := Lib.hid (Lr3.out.alloc (.cells #[.int .i64 e2, .slice A3 n2 c3] 24))
  have Ba3 := Lib.hid (Br3.out.alloc Br3.out.size (.cells #[.int .i64 e2, .slice A3 n2 c3] 24))
  have Ua3 := Lib.hid (HM.new (e := e2) (n := n2) (c := c3) hr (rfl : w3.heap.size = w3.heap.size))
  clear hr hb Xr3 Tr3 Pr3 Qr3 Lr3
  obtain ⟨X_0, X_1, -⟩ := Xa3.out
  obtain ⟨T_0, T_1, -⟩ := Ta3.out
  obtain ⟨P_0, P_1, -⟩ := Pa3.out
  obtain ⟨Q_0, Q_1, -⟩ := Qa3.out
  obtain ⟨U_0, U_1, -⟩ := Ua3.out
  go_wp2_with fail
  refine (lgo_back _ _ l n _ _ _ cs q _ _ HN.out hbig Xa3.out.2.2 HQ.out hqb Ta3.out.2.2 FT.out e2 l2 n2 k2 HW.out.un).mono ?_
  rintro e w4 ⟨A4, c4, rfl, hr, hb, -⟩
  clear X_0 X_1 T_0 T_1 P_0 P_1 Q_0 Q_1 U_0 U_1
  have Xr4 := Lib.hid (Xa3.out.below hb)
  have Tr4 := Lib.hid (Ta3.out.below hb)
  have Pr4 := Lib.hid (Pa3.out.below hb)
  have Qr4 := Lib.hid (Qa3.out.below hb)
  have Ur4 := Lib.hid (Ua3.out.below hb)
  have Lr4 := Lib.hid (La3.out.below hb)
  have Br4 := Lib.hid (Ba3.out.trans (hb.mono Ba3.out.size))
  clear Xa3 Ta3 Pa3 Qa3 Ua3 La3
  have Xa4 := Lib.hid (Xr4.out.alloc (.cells #[.int .i64 e2, .slice A4 n2 c4] 24))
  have Ta4 := Lib.hid (Tr4.out.alloc (.cells #[.int .i64 e2, .slice A4 n2 c4] 24))
  have Pa4 := Lib.hid (Pr4.out.alloc (.cells #[.int .i64 e2, .slice A4 n2 c4] 24))
  have Qa4 := Lib.hid (Qr4.out.alloc (.cells #[.int .i64 e2, .slice A4 n2 c4] 24))
  have Ua4 := Lib.hid (Ur4.out.alloc (.cells #[.int .i64 e2, .slice A4 n2 c4] 24))
  have La4 := Lib.hid (Lr4.out.alloc (.cells #[.int .i64 e2, .slice A4 n2 c4] 24))
  have Ba4 := Lib.hid (Br4.out.alloc Br4.out.size (.cells #[.int .i64 e2, .slice A4 n2 c4] 24))
  have Va4 := Lib.hid (HM.new (e := e2) (n := n2) (c := c4) hr (rfl : w4.heap.size = w4.heap.size))
  clear hr hb Xr4 Tr4 Pr4 Qr4 Ur4 Lr4
  obtain ⟨X_0, X_1, -⟩ := Xa4.out
  obtain ⟨T_0, T_1, -⟩ := Ta4.out
  obtain ⟨P_0, P_1, -⟩ := Pa4.out
  obtain ⟨Q_0, Q_1, -⟩ := Qa4.out
  obtain ⟨U_0, U_1, -⟩ := Ua4.out
  obtain ⟨V_0, V_1, -⟩ := Va4.out
  go_wp2_with fail
  refine (all_c _ _ l n _ _ ls p _ _ HN.out hbig Xa4.out.2.2 HP.out hpb La4.out 0 [] 0 1 HW.out.al).mono ?_
  rintro e w5 ⟨A5, c5, rfl, hr, hb, -⟩
  clear X_0 X_1 T_0 T_1 P_0 P_1 Q_0 Q_1 U_0 U_1 V_0 V_1
  have Xr5 := Lib.hid (Xa4.out.below hb)
  have Tr5 := Lib.hid (Ta4.out.below hb)
  have Pr5 := Lib.hid (Pa4.out.below hb)
  have Qr5 := Lib.hid (Qa4.out.below hb)
  have Ur5 := Lib.hid (Ua4.out.below hb)
  have Vr5 := Lib.hid (Va4.out.below hb)
  have Lr5 := Lib.hid (La4.out.below hb)
  have Br5 := Lib.hid (Ba4.out.trans (hb.mono Ba4.out.size))
  clear Xa4 Ta4 Pa4 Qa4 Ua4 Va4 La4
  have Xa5 := Lib.hid (Xr5.out.alloc (.cells #[.int .i64 (0 : Int), .slice A5 0 c5] 24))
  have Ta5 := Lib.hid (Tr5.out.alloc (.cells #[.int .i64 (0 : Int), .slice A5 0 c5] 24))
  have Pa5 := Lib.hid (Pr5.out.alloc (.cells #[.int .i64 (0 : Int), .slice A5 0 c5] 24))
  have Qa5 := Lib.hid (Qr5.out.alloc (.cells #[.int .i64 (0 : Int), .slice A5 0 c5] 24))
  have Ua5 := Lib.hid (Ur5.out.alloc (.cells #[.int .i64 (0 : Int), .slice A5 0 c5] 24))
  have Va5 := Lib.hid (Vr5.out.alloc (.cells #[.int .i64 (0 : Int), .slice A5 0 c5] 24))
  have La5 := Lib.hid (Lr5.out.alloc (.cells #[.int .i64 (0 : Int), .slice A5 0 c5] 24))
  have Ba5 := Lib.hid (Br5.out.alloc Br5.out.size (.cells #[.int .i64 (0 : Int), .slice A5 0 c5] 24))
  have Za5 := Lib.hid (HM.new (e := (0 : Int)) (n := 0) (c := c5) hr (rfl : w5.heap.size = w5.heap.size))
  clear hr hb Xr5 Tr5 Pr5 Qr5 Ur5 Vr5 Lr5
  obtain ⟨X_0, X_1, -⟩ := Xa5.out
  obtain ⟨T_0, T_1, -⟩ := Ta5.out
  obtain ⟨P_0, P_1, -⟩ := Pa5.out
  obtain ⟨Q_0, Q_1, -⟩ := Qa5.out
  obtain ⟨U_0, U_1, -⟩ := Ua5.out
  obtain ⟨V_0, V_1, -⟩ := Va5.out
  obtain ⟨Z_0, Z_1, -⟩ := Za5.out
  go_wp2_with fail
  refine (same_c _ _ _ l1 n1 _ _ _ M1.out (by have := HW.out.le1; omega) Pa5.out.2.2 Qa5.out.2.2).mono ?_
  rintro e w6 ⟨rfl, hb⟩
  clear X_0 X_1 T_0 T_1 P_0 P_1 Q_0 Q_1 U_0 U_1 V_0 V_1 Z_0 Z_1
  have Xr6 := Lib.hid (Xa5.out.below hb)
  have Tr6 := Lib.hid (Ta5.out.below hb)
  have Pr6 := Lib.hid (Pa5.out.below hb)
  have Qr6 := Lib.hid (Qa5.out.below hb)
  have Ur6 := Lib.hid (Ua5.out.below hb)
  have Vr6 := Lib.hid (Va5.out.below hb)
  have Zr6 := Lib.hid (Za5.out.below hb)
  have Lr6 := Lib.hid (La5.out.below hb)
  have Br6 := Lib.hid (Ba5.out.trans (hb.mono Ba5.out.size))
  clear Xa5 Ta5 Pa5 Qa5 Ua5 Va5 Za5 La5
  clear hb
  obtain ⟨X_0, X_1, -⟩ := Xr6.out
  obtain ⟨T_0, T_1, -⟩ := Tr6.out
  obtain ⟨P_0, P_1, -⟩ := Pr6.out
  obtain ⟨Q_0, Q_1, -⟩ := Qr6.out
  obtain ⟨U_0, U_1, -⟩ := Ur6.out
  obtain ⟨V_0, V_1, -⟩ := Vr6.out
  obtain ⟨Z_0, Z_1, -⟩ := Zr6.out
  go_wp2_with fail
  refine (same_c _ _ _ l2 n2 _ _ _ M2.out (by have := HW.out.le2; omega) Ur6.out.2.2 Vr6.out.2.2).mono ?_
  rintro e w7 ⟨rfl, hb⟩
  clear X_0 X_1 T_0 T_1 P_0 P_1 Q_0 Q_1 U_0 U_1 V_0 V_1 Z_0 Z_1
  have Xr7 := Lib.hid (Xr6.out.below hb)
  have Tr7 := Lib.hid (Tr6.out.below hb)
  have Pr7 := Lib.hid (Pr6.out.below hb)
  have Qr7 := Lib.hid (Qr6.out.below hb)
  have Ur7 := Lib.hid (Ur6.out.below hb)
  have Vr7 := Lib.hid (Vr6.out.below hb)
  have Zr7 := Lib.hid (Zr6.out.below hb)
  have Lr7 := Lib.hid (Lr6.out.below hb)
  have Br7 := Lib.hid (Br6.out.trans (hb.mono Br6.out.size))
  clear Xr6 Tr6 Pr6 Qr6 Ur6 Vr6 Zr6 Lr6
  clear hb
  obtain ⟨X_0, X_1, -⟩ := Xr7.out
  obtain ⟨T_0, T_1, -⟩ := Tr7.out
  obtain ⟨P_0, P_1, -⟩ := Pr7.out
  obtain ⟨Q_0, Q_1, -⟩ := Qr7.out
  obtain ⟨U_0, U_1, -⟩ := Ur7.out
  obtain ⟨V_0, V_1, -⟩ := Vr7.out
  obtain ⟨Z_0, Z_1, -⟩ := Zr7.out
  go_wp2_with fail
  refine (LR.out _).mono ?_
  rintro e w8 ⟨rfl, hb⟩
  clear X_0 X_1 T_0 T_1 P_0 P_1 Q_0 Q_1 U_0 U_1 V_0 V_1 Z_0 Z_1
  have Xr8 := Lib.hid (Xr7.out.below hb)
  have Tr8 := Lib.hid (Tr7.out.below hb)
  have Pr8 := Lib.hid (Pr7.out.below hb)
  have Qr8 := Lib.hid (Qr7.out.below hb)
  have Ur8 := Lib.hid (Ur7.out.below hb)
  have Vr8 := Lib.hid (Vr7.out.below hb)
  have Zr8 := Lib.hid (Zr7.out.below hb)
  have Lr8 := Lib.hid (Lr7.out.below hb)
  have Br8 := Lib.hid (Br7.out.trans (hb.mono Br7.out.size))
  clear Xr7 Tr7 Pr7 Qr7 Ur7 Vr7 Zr7 Lr7
  clear hb
  obtain ⟨X_0, X_1, -⟩ := Xr8.out
  obtain ⟨T_0, T_1, -⟩ := Tr8.out
  obtain ⟨P_0, P_1, -⟩ := Pr8.out
  obtain ⟨Q_0, Q_1, -⟩ := Qr8.out
  obtain ⟨U_0, U_1, -⟩ := Ur8.out
  obtain ⟨V_0, V_1, -⟩ := Vr8.out
  obtain ⟨Z_0, Z_1, -⟩ := Zr8.out
  go_wp2_with fail
  refine (same_c 0 _ none [] 0 _ 0 _ rfl (by omega) Zr8.out.2.2 Reads.nil).mono ?_
  rintro e w9 ⟨rfl, hb⟩
  clear X_0 X_1 T_0 T_1 P_0 P_1 Q_0 Q_1 U_0 U_1 V_0 V_1 Z_0 Z_1
  have Xr9 := Lib.hid (Xr8.out.below hb)
  have Tr9 := Lib.hid (Tr8.out.below hb)
  have Pr9 := Lib.hid (Pr8.out.below hb)
  have Qr9 := Lib.hid (Qr8.out.below hb)
  have Ur9 := Lib.hid (Ur8.out.below hb)
  have Vr9 := Lib.hid (Vr8.out.below hb)
  have Zr9 := Lib.hid (Zr8.out.below hb)
  have Lr9 := Lib.hid (Lr8.out.below hb)
  have Br9 := Lib.hid (Br8.out.trans (hb.mono Br8.out.size))
  clear Xr8 Tr8 Pr8 Qr8 Ur8 Vr8 Zr8 Lr8
  clear hb
  obtain ⟨X_0, X_1, -⟩ := Xr9.out
  obtain ⟨T_0, T_1, -⟩ := Tr9.out
  obtain ⟨P_0, P_1, -⟩ := Pr9.out
  obtain ⟨Q_0, Q_1, -⟩ := Qr9.out
  obtain ⟨U_0, U_1, -⟩ := Ur9.out
  obtain ⟨V_0, V_1, -⟩ := Vr9.out
  obtain ⟨Z_0, Z_1, -⟩ := Zr9.out
  go_wp2
  go_ret
  exact ⟨rfl, Br9.out⟩
set_option maxRecDepth 100000 in
set_option maxHeartbeats 16000000 in
theorem good (m1 : Int) (A : Option Addr) (l : List Int) (n c : Nat) (s1 : Int) (C : Option Addr) (cs : List Ch) (q ca : Nat) (S : Option Addr) (ls : List Sp) (p cp : Nat) (W : World) (hn : l.length = n) (hbig : n ≤ 17592186044416) (hx : Reads W A (ints l)) (hq : cs.length = q) (hqb : q ≤ 5864062014805) (hc : CRds W C cs) (hfs : Fit s1)
    (hp : ls.length = p) (hpb : p ≤ 4398046511104) (hs : SRds W S ls) (hfl : FitsS ls)
    (e1 : Int) (l1 : List Int) (n1 : Nat) (k1 : Int) (e2 : Int) (l2 : List Int) (n2 : Nat) (k2 : Int) (e0 : Int) (l0 : List Int) (n0 : Nat) (k0 : Int) (hw : Ap m1 l s1 cs ls e1 l1 n1 k1 e2 l2 n2 k2 e0 l0 n0 k0) (h1 : okB m1 n = true) :
    Calls Try.prog 4 #[.agg #[.int .i64 m1, .slice A n c], .agg #[.int .i64 s1, .slice C q ca], .slice S p cp] W (Law.Yes W) := by
  have OK := Lib.hid ((okB_iff (m := (m1, l)) hn).1 h1)
  have X0 := Lib.hid ((HM.new (e := m1) (n := n) (c := c) hx rfl).alloc (.cells #[.int .i64 s1, .slice C q ca] 27))
  have T0 := Lib.hid (HS.new (V := W.alloc (.cells #[.int .i64 m1, .slice A n c] 24)) (g := W.heap.size + 1) (e := s1) (n := q) (c := ca) (hc.below (below_alloc _ _)) (alloc2_size _ _))
  have B0 := Lib.hid (show Below W.heap.size W ((W.alloc (.cells #[.int .i64 m1, .slice A n c] 24)).alloc (.cells #[.int .i64 s1, .slice C q ca] 27)) from (below_alloc _ _).alloc (by simp) _)
  have L0 := Lib.hid (hs.below B0.out)
  have HN := Lib.hid hn
  have HQ := Lib.hid hq
  have HP := Lib.hid hp
  have FT := Lib.hid hfs
  have FL := Lib.hid hfl
  have HW := Lib.hid hw
  have M1 := Lib.hid (show l1.length = n1 from hw.ap.2.2)
  have M2 := Lib.hid (show l2.length = n2 from hw.un.2.2)
  have M0 := Lib.hid (show l0.length = n0 from hw.al.2.2)
  have z1 : (k1 != k1) = false := by simp
  have z2 : (k2 != k2) = false := by simp
  have z3 : (k0 == k0) = true := by simp
  clear hn hx hq hc hs hp hfs hfl hw
  have LR := Lib.hid (fun V => lright_c m1 A n c V true h1)
  clear h1
  go_enter Try.func4, Try.ntmps4
  obtain ⟨X_0, X_1, -⟩ := X0.out
  obtain ⟨T_0, T_1, -⟩ := T0.out
  go_wp2_with fail
  refine (apply_c _ _ l n _ _ _ cs q _ _ HN.out hbig X0.out.2.2 HQ.out hqb T0.out.2.2 e1 l1 n1 k1 HW.out.ap).mono ?_
  rintro e w1 ⟨A1, c1, rfl, hr, hb, -⟩
  clear X_0 X_1 T_0 T_1
  have Xr1 := Lib.hid (X0.out.below hb)
  have Tr1 := Lib.hid (T0.out.below hb)
  have Lr1 := Lib.hid (L0.out.below hb)
  have Br1 := Lib.hid (B0.out.trans (hb.mono B0.out.size))
  clear X0 T0 L0
  have Xa1 := Lib.hid (Xr1.out.alloc (.cells #[.int .i64 e1, .slice A1 n1 c1] 24))
  have Ta1 := Lib.hid (Tr1.out.alloc (.cells #[.int .i64 e1, .slice A1 n1 c1] 24))
  have La1 := Lib.hid (Lr1.out.alloc (.cells #[.int .i64 e1, .slice A1 n1 c1] 24))
  have Ba1 := Lib.hid (Br1.out.alloc Br1.out.size (.cells #[.int .i64 e1, .slice A1 n1 c1] 24))
  have Pa1 := Lib.hid (HM.new (e := e1) (n := n1) (c := c1) hr (rfl : w1.heap.size = w1.heap.size))
  clear hr hb Xr1 Tr1 Lr1
  obtain ⟨X_0, X_1, -⟩ := Xa1.out
  obtain ⟨T_0, T_1, -⟩ := Ta1.out
  obtain ⟨P_0, P_1, -⟩ := Pa1.out
  go_wp2_with fail
  refine (lgo_forth _ _ l n _ _ _ cs q _ _ HN.out hbig Xa1.out.2.2 HQ.out hqb Ta1.out.2.2 FT.out e1 l1 n1 k1 HW.out.ap).mono ?_
  rintro e w2 ⟨A2, c2, rfl, hr, hb, -⟩
  clear X_0 X_1 T_0 T_1 P_0 P_1
  have Xr2 := Lib.hid (Xa1.out.below hb)
  have Tr2 := Lib.hid (Ta1.out.below hb)
  have Pr2 := Lib.hid (Pa1.out.below hb)
  have Lr2 := Lib.hid (La1.out.below hb)
  have Br2 := Lib.hid (Ba1.out.trans (hb.mono Ba1.out.size))
  clear Xa1 Ta1 Pa1 La1
  have Xa2 := Lib.hid (Xr2.out.alloc (.cells #[.int .i64 e1, .slice A2 n1 c2] 24))
  have Ta2 := Lib.hid (Tr2.out.alloc (.cells #[.int .i64 e1, .slice A2 n1 c2] 24))
  have Pa2 := Lib.hid (Pr2.out.alloc (.cells #[.int .i64 e1, .slice A2 n1 c2] 24))
  have La2 := Lib.hid (Lr2.out.alloc (.cells #[.int .i64 e1, .slice A2 n1 c2] 24))
  have Ba2 := Lib.hid (Br2.out.alloc Br2.out.size (.cells #[.int .i64 e1, .slice A2 n1 c2] 24))
  have Qa2 := Lib.hid (HM.new (e := e1) (n := n1) (c := c2) hr (rfl : w2.heap.size = w2.heap.size))
  clear hr hb Xr2 Tr2 Pr2 Lr2
  obtain ⟨X_0, X_1, -⟩ := Xa2.out
  obtain ⟨T_0, T_1, -⟩ := Ta2.out
  obtain ⟨P_0, P_1, -⟩ := Pa2.out
  obtain ⟨Q_0, Q_1, -⟩ := Qa2.out
  go_wp2_with fail
  refine (undo_c _ _ l n _ _ _ cs q _ _ HN.out hbig Xa2.out.2.2 HQ.out hqb Ta2.out.2.2 e2 l2 n2 k2 HW.out.un).mono ?_
  rintro e w3 ⟨A3, c3, rfl, hr, hb, -⟩
  clear X_0 X_1 T_0 T_1 P_0 P_1 Q_0 Q_1
  have Xr3 := Lib.hid (Xa2.out.below hb)
  have Tr3 := Lib.hid (Ta2.out.below hb)
  have Pr3 := Lib.hid (Pa2.out.below hb)
  have Qr3 := Lib.hid (Qa2.out.below hb)
  have Lr3 := Lib.hid (La2.out.below hb)
  have Br3 := Lib.hid (Ba2.out.trans (hb.mono Ba2.out.size))
  clear Xa2 Ta2 Pa2 Qa2 La2
  have Xa3 := Lib.hid (Xr3.out.alloc (.cells #[.int .i64 e2, .slice A3 n2 c3] 24))
  have Ta3 := Lib.hid (Tr3.out.alloc (.cells #[.int .i64 e2, .slice A3 n2 c3] 24))
  have Pa3 := Lib.hid (Pr3.out.alloc (.cells #[.int .i64 e2, .slice A3 n2 c3] 24))
  have Qa3 := Lib.hid (Qr3.out.alloc (.cells #[.int .i64 e2, .slice A3 n2 c3] 24))
  have La3 := Lib.hid (Lr3.out.alloc (.cells #[.int .i64 e2, .slice A3 n2 c3] 24))
  have Ba3 := Lib.hid (Br3.out.alloc Br3.out.size (.cells #[.int .i64 e2, .slice A3 n2 c3] 24))
  have Ua3 := Lib.hid (HM.new (e := e2) (n := n2) (c := c3) hr (rfl : w3.heap.size = w3.heap.size))
  clear hr hb Xr3 Tr3 Pr3 Qr3 Lr3
  obtain ⟨X_0, X_1, -⟩ := Xa3.out
  obtain ⟨T_0, T_1, -⟩ := Ta3.out
  obtain ⟨P_0, P_1, -⟩ := Pa3.out
  obtain ⟨Q_0, Q_1, -⟩ := Qa3.out
  obtain ⟨U_0, U_1, -⟩ := Ua3.out
  go_wp2_with fail
  refine (lgo_back _ _ l n _ _ _ cs q _ _ HN.out hbig Xa3.out.2.2 HQ.out hqb Ta3.out.2.2 FT.out e2 l2 n2 k2 HW.out.un).mono ?_
  rintro e w4 ⟨A4, c4, rfl, hr, hb, -⟩
  clear X_0 X_1 T_0 T_1 P_0 P_1 Q_0 Q_1 U_0 U_1
  have Xr4 := Lib.hid (Xa3.out.below hb)
  have Tr4 := Lib.hid (Ta3.out.below hb)
  have Pr4 := Lib.hid (Pa3.out.below hb)
  have Qr4 := Lib.hid (Qa3.out.below hb)
  have Ur4 := Lib.hid (Ua3.out.below hb)
  have Lr4 := Lib.hid (La3.out.below hb)
  have Br4 := Lib.hid (Ba3.out.trans (hb.mono Ba3.out.size))
  clear Xa3 Ta3 Pa3 Qa3 Ua3 La3
  have Xa4 := Lib.hid (Xr4.out.alloc (.cells #[.int .i64 e2, .slice A4 n2 c4] 24))
  have Ta4 := Lib.hid (Tr4.out.alloc (.cells #[.int .i64 e2, .slice A4 n2 c4] 24))
  have Pa4 := Lib.hid (Pr4.out.alloc (.cells #[.int .i64 e2, .slice A4 n2 c4] 24))
  have Qa4 := Lib.hid (Qr4.out.alloc (.cells #[.int .i64 e2, .slice A4 n2 c4] 24))
  have Ua4 := Lib.hid (Ur4.out.alloc (.cells #[.int .i64 e2, .slice A4 n2 c4] 24))
  have La4 := Lib.hid (Lr4.out.alloc (.cells #[.int .i64 e2, .slice A4 n2 c4] 24))
  have Ba4 := Lib.hid (Br4.out.alloc Br4.out.size (.cells #[.int .i64 e2, .slice A4 n2 c4] 24))
  have Va4 := Lib.hid (HM.new (e := e2) (n := n2) (c := c4) hr (rfl : w4.heap.size = w4.heap.size))
  clear hr hb Xr4 Tr4 Pr4 Qr4 Ur4 Lr4
  obtain ⟨X_0, X_1, -⟩ := Xa4.out
  obtain ⟨T_0, T_1, -⟩ := Ta4.out
  obtain ⟨P_0, P_1, -⟩ := Pa4.out
  obtain ⟨Q_0, Q_1, -⟩ := Qa4.out
  obtain ⟨U_0, U_1, -⟩ := Ua4.out
  obtain ⟨V_0, V_1, -⟩ := Va4.out
  go_wp2_with fail
  refine (all_c _ _ l n _ _ ls p _ _ HN.out hbig Xa4.out.2.2 HP.out hpb La4.out e0 l0 n0 k0 HW.out.al).mono ?_
  rintro e w5 ⟨A5, c5, rfl, hr, hb, -⟩
  clear X_0 X_1 T_0 T_1 P_0 P_1 Q_0 Q_1 U_0 U_1 V_0 V_1
  have Xr5 := Lib.hid (Xa4.out.below hb)
  have Tr5 := Lib.hid (Ta4.out.below hb)
  have Pr5 := Lib.hid (Pa4.out.below hb)
  have Qr5 := Lib.hid (Qa4.out.below hb)
  have Ur5 := Lib.hid (Ua4.out.below hb)
  have Vr5 := Lib.hid (Va4.out.below hb)
  have Lr5 := Lib.hid (La4.out.below hb)
  have Br5 := Lib.hid (Ba4.out.trans (hb.mono Ba4.out.size))
  clear Xa4 Ta4 Pa4 Qa4 Ua4 Va4 La4
  have Xa5 := Lib.hid (Xr5.out.alloc (.cells #[.int .i64 e0, .slice A5 n0 c5] 24))
  have Ta5 := Lib.hid (Tr5.out.alloc (.cells #[.int .i64 e0, .slice A5 n0 c5] 24))
  have Pa5 := Lib.hid (Pr5.out.alloc (.cells #[.int .i64 e0, .slice A5 n0 c5] 24))
  have Qa5 := Lib.hid (Qr5.out.alloc (.cells #[.int .i64 e0, .slice A5 n0 c5] 24))
  have Ua5 := Lib.hid (Ur5.out.alloc (.cells #[.int .i64 e0, .slice A5 n0 c5] 24))
  have Va5 := Lib.hid (Vr5.out.alloc (.cells #[.int .i64 e0, .slice A5 n0 c5] 24))
  have La5 := Lib.hid (Lr5.out.alloc (.cells #[.int .i64 e0, .slice A5 n0 c5] 24))
  have Ba5 := Lib.hid (Br5.out.alloc Br5.out.size (.cells #[.int .i64 e0, .slice A5 n0 c5] 24))
  have Za5 := Lib.hid (HM.new (e := e0) (n := n0) (c := c5) hr (rfl : w5.heap.size = w5.heap.size))
  clear hr hb Xr5 Tr5 Pr5 Qr5 Ur5 Vr5 Lr5
  obtain ⟨X_0, X_1, -⟩ := Xa5.out
  obtain ⟨T_0, T_1, -⟩ := Ta5.out
  obtain ⟨P_0, P_1, -⟩ := Pa5.out
  obtain ⟨Q_0, Q_1, -⟩ := Qa5.out
  obtain ⟨U_0, U_1, -⟩ := Ua5.out
  obtain ⟨V_0, V_1, -⟩ := Va5.out
  obtain ⟨Z_0, Z_1, -⟩ := Za5.out
  go_wp2_with fail
  refine (same_c _ _ _ l1 n1 _ _ _ M1.out (by have := HW.out.le1; omega) Pa5.out.2.2 Qa5.out.2.2).mono ?_
  rintro e w6 ⟨rfl, hb⟩
  clear X_0 X_1 T_0 T_1 P_0 P_1 Q_0 Q_1 U_0 U_1 V_0 V_1 Z_0 Z_1
  have Xr6 := Lib.hid (Xa5.out.below hb)
  have Tr6 := Lib.hid (Ta5.out.below hb)
  have Pr6 := Lib.hid (Pa5.out.below hb)
  have Qr6 := Lib.hid (Qa5.out.below hb)
  have Ur6 := Lib.hid (Ua5.out.below hb)
  have Vr6 := Lib.hid (Va5.out.below hb)
  have Zr6 := Lib.hid (Za5.out.below hb)
  have Lr6 := Lib.hid (La5.out.below hb)
  have Br6 := Lib.hid (Ba5.out.trans (hb.mono Ba5.out.size))
  clear Xa5 Ta5 Pa5 Qa5 Ua5 Va5 Za5 La5
  clear hb
  obtain ⟨X_0, X_1, -⟩ := Xr6.out
  obtain ⟨T_0, T_1, -⟩ := Tr6.out
  obtain ⟨P_0, P_1, -⟩ := Pr6.out
  obtain ⟨Q_0, Q_1, -⟩ := Qr6.out
  obtain ⟨U_0, U_1, -⟩ := Ur6.out
  obtain ⟨V_0, V_1, -⟩ := Vr6.out
  obtain ⟨Z_0, Z_1, -⟩ := Zr6.out
  go_wp2_with fail
  refine (same_c _ _ _ l2 n2 _ _ _ M2.out (by have := HW.out.le2; omega) Ur6.out.2.2 Vr6.out.2.2).mono ?_
  rintro e w7 ⟨rfl, hb⟩
  clear X_0 X_1 T_0 T_1 P_0 P_1 Q_0 Q_1 U_0 U_1 V_0 V_1 Z_0 Z_1
  have Xr7 := Lib.hid (Xr6.out.below hb)
  have Tr7 := Lib.hid (Tr6.out.below hb)
  have Pr7 := Lib.hid (Pr6.out.below hb)
  have Qr7 := Lib.hid (Qr6.out.below hb)
  have Ur7 := Lib.hid (Ur6.out.below hb)
  have Vr7 := Lib.hid (Vr6.out.below hb)
  have Zr7 := Lib.hid (Zr6.out.below hb)
  have Lr7 := Lib.hid (Lr6.out.below hb)
  have Br7 := Lib.hid (Br6.out.trans (hb.mono Br6.out.size))
  clear Xr6 Tr6 Pr6 Qr6 Ur6 Vr6 Zr6 Lr6
  clear hb
  obtain ⟨X_0, X_1, -⟩ := Xr7.out
  obtain ⟨T_0, T_1, -⟩ := Tr7.out
  obtain ⟨P_0, P_1, -⟩ := Pr7.out
  obtain ⟨Q_0, Q_1, -⟩ := Qr7.out
  obtain ⟨U_0, U_1, -⟩ := Ur7.out
  obtain ⟨V_0, V_1, -⟩ := Vr7.out
  obtain ⟨Z_0, Z_1, -⟩ := Zr7.out
  go_wp2_with fail
  refine (LR.out _).mono ?_
  rintro e w8 ⟨rfl, hb⟩
  clear X_0 X_1 T_0 T_1 P_0 P_1 Q_0 Q_1 U_0 U_1 V_0 V_1 Z_0 Z_1
  have Xr8 := Lib.hid (Xr7.out.below hb)
  have Tr8 := Lib.hid (Tr7.out.below hb)
  have Pr8 := Lib.hid (Pr7.out.below hb)
  have Qr8 := Lib.hid (Qr7.out.below hb)
  have Ur8 := Lib.hid (Ur7.out.below hb)
  have Vr8 := Lib.hid (Vr7.out.below hb)
  have Zr8 := Lib.hid (Zr7.out.below hb)
  have Lr8 := Lib.hid (Lr7.out.below hb)
  have Br8 := Lib.hid (Br7.out.trans (hb.mono Br7.out.size))
  clear Xr7 Tr7 Pr7 Qr7 Ur7 Vr7 Zr7 Lr7
  clear hb
  obtain ⟨X_0, X_1, -⟩ := Xr8.out
  obtain ⟨T_0, T_1, -⟩ := Tr8.out
  obtain ⟨P_0, P_1, -⟩ := Pr8.out
  obtain ⟨Q_0, Q_1, -⟩ := Qr8.out
  obtain ⟨U_0, U_1, -⟩ := Ur8.out
  obtain ⟨V_0, V_1, -⟩ := Vr8.out
  obtain ⟨Z_0, Z_1, -⟩ := Zr8.out
  have K0 := Lib.hid (Known.made w8 24 #[.int .i64 m1, .slice A n c])
  have R0 := Lib.hid (Xr8.out.2.2.alloc (.cells #[.int .i64 m1, .slice A n c] 24))
  go_wp2
  clear X_0 X_1 T_0 T_1 P_0 P_1 Q_0 Q_1 U_0 U_1 V_0 V_1 Z_0 Z_1
  go_loopw [85] (fun i wr => ∃ k : Nat, k ≤ p ∧ i = .int .i64 k ∧ At w8 (m1, l) ls k wr) (fun i _ => p - (intOf i).toNat)
  case atStart => exact ⟨0, by omega, rfl, m1, l, n, A, c, HN.out, OK.out, rfl, rfl, K0.out, R0.out, (Below.refl _ _).alloc (Nat.le_refl _) _⟩
  case round =>
    obtain ⟨k, hk, rfl, u1, lu, nu, Au, cu, hlu, hok, hE, hM, hK, hR, hB⟩ := hrel
    obtain ⟨Z_0, Z_1, hRZ⟩ := Zr8.out.below hB
    by_cases hlt : k < p
    · have k1' : k < ls.length := by rw [HP.out]; exact hlt
      have ex : ls[k]? = some ls[k] := List.getElem?_eq_getElem k1'
      obtain ⟨s, hu⟩ : ∃ s, s = ls[k] := ⟨_, rfl⟩
      rw [← hu] at ex
      have hfit := FL.out s (List.mem_of_getElem? ex)
      obtain ⟨b, o, D, sn, sc, rfl, _, y0, y1, hsn, _, hsb, hD⟩ := (Lr8.out.below hB).step ex
      obtain ⟨t1, t2⟩ := st_step ex (u1, lu)
      obtain ⟨sE, csE⟩ := s
      obtain ⟨v0, v1⟩ := boxS wr (.int .i64 sE) (.slice D sn sc)
      have hA := (Below.refl wr.heap.size wr).alloc (Nat.le_refl _) (.cells #[.int .i64 sE, .slice D sn sc] 27)
      have n4 : nu ≤ 17592186044416 := by rw [← hlu]; have := hok.2.2; simp at this; omega
      obtain ⟨kE, hkE⟩ : ∃ kE, kE = apE (u1, lu) (sE, csE) := ⟨_, rfl⟩
      obtain ⟨eM, hM1⟩ : ∃ eM, eM = (apM (u1, lu) (sE, csE)).1 := ⟨_, rfl⟩
      obtain ⟨lM, hM2⟩ : ∃ lM, lM = (apM (u1, lu) (sE, csE)).2 := ⟨_, rfl⟩
      obtain ⟨nM, hM3⟩ : ∃ nM, nM = lM.length := ⟨_, rfl⟩
      have SY : Says (apE (u1, lu) (sE, csE)) (apM (u1, lu) (sE, csE)) eM lM nM kE := ⟨hkE.symm, Prod.ext hM1.symm hM2.symm, hM3.symm⟩
      have AP := Lib.hid (lgo_forth u1 Au lu nu cu sE D csE sn sc _ hlu n4 (hR.below hA) hsn hsb (hD.below hA) hfit eM lM nM kE SY)
      have KK := Lib.hid (hK.alloc (.cells #[.int .i64 sE, .slice D sn sc] 27))
      have a0 := KK.out.cell 0
      have a1 := KK.out.cell 1
      have BA := Lib.hid (hB.alloc hB.size (.cells #[.int .i64 sE, .slice D sn sc] 27))
      have GL := Lib.hid (KK.out.lt)
      have EE := Lib.hid hE
      have MM := Lib.hid hM
      have TT1 := Lib.hid t1
      have TT2 := Lib.hid t2
      have HKE := Lib.hid hkE
      have HM1 := Lib.hid (show apM (u1, lu) (sE, csE) = (eM, lM) from Prod.ext hM1.symm hM2.symm)
      have HL := Lib.hid hM3
      have OKN := Lib.hid (show kE = 0 → okM (eM, lM) from fun h => by have := apM_ok (m := (u1, lu)) (s := (sE, csE)) (by rw [← hkE, h]); rw [show apM (u1, lu) (sE, csE) = (eM, lM) from Prod.ext hM1.symm hM2.symm] at this; exact this)
      have i1 : (k : Int) < (p : Int) := by omega
      clear hu ex k1' hlu hok hE hM hK hR hB hsn hsb hD t1 t2 hA n4 hkE hM1 hM2 hM3 SY hfit hRZ Z_0 Z_1
      go_wp2_with fail
      refine AP.out.mono ?_
      rintro e w9 ⟨A9, c9, rfl, hr, hb, hf⟩
      have K9 := Lib.hid (KK.out.later hb)
      have B9 := Lib.hid (BA.out.trans (hb.mono BA.out.size))
      have R9 := Lib.hid hr
      have F9 := Lib.hid (show ∀ a, A9 = some a → a.block ≠ w8.heap.size from fun a h e => by have h1 := hf a h; have h2 := GL.out; omega)
      clear a0 a1 v0 v1 y0 y1
      obtain ⟨v0, v1⟩ := boxM w9 (.int .i64 eM) (.slice A9 nM c9)
      have K5 := Lib.hid (K9.out.alloc (.cells #[.int .i64 eM, .slice A9 nM c9] 24))
      have B5 := Lib.hid (B9.out.alloc B9.out.size (.cells #[.int .i64 eM, .slice A9 nM c9] 24))
      have R5 := Lib.hid (R9.out.alloc (.cells #[.int .i64 eM, .slice A9 nM c9] 24))
      have Z5 := Lib.hid (Zr8.out.below B5.out)
      clear hr hb hf AP KK BA
      by_cases h0 : kE = 0
      · subst h0
        have a0 := K5.out.cell 0
        have a1 := K5.out.cell 1
        have a2 := K5.out.free 0
        have a3 := K5.out.free 1
        have PK := Lib.hid (known_putM (a := .int .i64 eM) (b := .slice A9 nM c9) K5.out)
        have PR := Lib.hid (reads_put R5.out F9.out 0 1 (.int .i64 eM) (.slice A9 nM c9))
        have PB := Lib.hid ((B5.out.setCell (p := ⟨w8.heap.size, 0, none⟩) (Nat.le_refl _) (.int .i64 eM)).setCell (p := ⟨w8.heap.size, 1, none⟩) (Nat.le_refl _) (.slice A9 nM c9))
        obtain ⟨g1, g2⟩ := TT1.out HKE.out.symm
        have EN := Lib.hid (EE.out.trans g1)
        have MN := Lib.hid (MM.out.trans g2)
        rw [HM1.out] at EN MN
        clear g1 g2
        go_wp2
        go_roundw
        case rel => exact ⟨k + 1, by omega, by go_num, eM, lM, nM, A9, c9, HL.out.symm, OKN.out (by trivial), EN.out, MN.out, PK.out, PR.out, PB.out⟩
        case measure => simp [intOf]; omega
      · have y0 : (kE != 0) = true := by simpa using h0
        have AE : alE (m1, l) ls = kE := by unfold alE; rw [if_neg (by simpa using OK.out), EE.out, TT2.out (by rw [← HKE.out]; exact h0), ← HKE.out]
        obtain ⟨rfl, rfl, rfl, rfl⟩ := HW.out.al.bad AE (alM_bad (by rw [AE]; exact h0))
        obtain ⟨Z_0, Z_1, -⟩ := Z5.out
        have RZ := Lib.hid Z5.out.2.2
        have BZ := Lib.hid (Br8.out.trans (B5.out.mono Br8.out.size))
        clear h0 AE
        go_wp2_with fail
        refine (same_c 0 _ none [] 0 _ 0 _ rfl (by omega) RZ.out Reads.nil).mono ?_
        rintro e w10 ⟨rfl, hb⟩
        have BY := Lib.hid (BZ.out.trans (hb.mono BZ.out.size))
        clear hb
        go_wp2
        go_ret
        exact ⟨rfl, BY.out⟩
    · obtain rfl : k = p := by omega
      have ED : ls.drop k = [] := List.drop_of_length_le (by rw [HP.out]; omega)
      rw [ED] at hE hM
      have e : alE (m1, l) ls = 0 := alE_zero.2 ⟨OK.out, hE⟩
      have H0 : e0 = u1 ∧ l0 = lu ∧ n0 = nu ∧ k0 = 0 := by
        obtain ⟨g1, g2, g3⟩ := HW.out.al
        rw [alM_of e, hM] at g2
        injection g2 with g4 g5
        exact ⟨g4.symm, g5.symm, by rw [← g3, ← g5, hlu], by rw [← g1, e]⟩
      obtain ⟨rfl, rfl, rfl, rfl⟩ := H0
      have HK := Lib.hid hK
      have HR := Lib.hid hR
      have RZ := Lib.hid hRZ
      have a0 := HK.out.cell 0
      have a1 := HK.out.cell 1
      have BZ := Lib.hid (Br8.out.trans (hB.mono Br8.out.size))
      clear hlu hok hE hM hK hR hB ED e hRZ
      go_wp2_with fail
      refine (same_c _ _ _ l0 n0 _ _ _ M0.out (by have := HW.out.le0; omega) RZ.out HR.out).mono ?_
      rintro e w10 ⟨rfl, hb⟩
      have BY := Lib.hid (BZ.out.trans (hb.mono BZ.out.size))
      clear hb
      go_wp2
      go_ret
      exact ⟨rfl, BY.out⟩
set_option maxRecDepth 100000 in
theorem walk {H : Type} {enc : TypeId × Value → H} {base : Nat} {W : World} {v0 : Value} {d0 : DataW H} {p0 : List MemPlace}
    (o0 : Value.okWide Try.prog W .any base 24 v0) (h0 : DataW.Trod enc Try.prog W 0 (fun _ => true) true 24 v0 d0 p0) {v1 : Value} {d1 : DataW H} {p1 : List MemPlace}
    (o1 : Value.okWide Try.prog W .any base 27 v1) (h1 : DataW.Trod enc Try.prog W 0 (fun _ => true) true 27 v1 d1 p1) {v2 : Value} {d2 : DataW H} {p2 : List MemPlace}
    (o2 : Value.okWide Try.prog W .any base 36 v2) (h2 : DataW.Trod enc Try.prog W 0 (fun _ => true) true 36 v2 d2 p2)
    (hz : (DataW.weightsEach Try.prog [24, 27, 36] [d0, d1, d2]).all (· ≤ reachBytes) = true) :
    Calls Try.prog 4 #[v0, v1, v2] W (Law.Yes W) := by
  obtain ⟨m1, A, l, n, c, rfl, _, hn, hnb, hx⟩ := open_mapZ o0 h0 hz (j := 0) rfl rfl
  obtain ⟨s1, C, cs, q, ca, rfl, hfs, hq, hqb, hc⟩ := open_stepZ o1 h1 hz (j := 1) rfl rfl
  obtain ⟨S, cp, ls, rfl, hpb, _, _, hs, hfl⟩ := open_stepsZ o2 h2 hz (j := 2) rfl rfl
  have hw : Ap m1 l s1 cs ls (apM (m1, l) (s1, cs)).1 (apM (m1, l) (s1, cs)).2 (apM (m1, l) (s1, cs)).2.length (apE (m1, l) (s1, cs)) (unM (m1, l) (s1, cs)).1 (unM (m1, l) (s1, cs)).2 (unM (m1, l) (s1, cs)).2.length (unE (m1, l) (s1, cs)) (alM (m1, l) ls).1 (alM (m1, l) ls).2 (alM (m1, l) ls).2.length (alE (m1, l) ls) := ⟨⟨rfl, rfl, rfl⟩, ⟨rfl, rfl, rfl⟩, ⟨rfl, rfl, rfl⟩, ap_le _ _, un_le _ _, al_le _ _⟩
  cases hb : okB m1 n with
  | false =>
    have h1 := al_one (l := ls) ((okB_false (m := (m1, l)) hn).1 hb)
    have h2 := alM_bad (m := (m1, l)) (l := ls) (by rw [h1]; decide)
    exact bad m1 A l n c s1 C cs q ca S ls _ cp W hn hnb hx hq hqb hc hfs rfl hpb hs hfl _ _ _ _ _ _ _ _ _ _ _ _ hw hb ⟨by rw [h2], by rw [h2], by rw [h2]; rfl, h1⟩
  | true => exact good m1 A l n c s1 C cs q ca S ls _ cp W hn hnb hx hq hqb hc hfs rfl hpb hs hfl _ _ _ _ _ _ _ _ _ _ _ _ hw hb
theorem own : ownKnob Try.prog.godebug = none := by kernel_rfl
theorem laid : laidOutB Try.prog = true := by kernel_rfl
theorem pars : ∀ t ∈ Try.f4.params.toList, Try.prog.readableRec t = true ∧ t < Try.prog.types.size := by
  have h : Try.f4.params.toList.all (fun t => Try.prog.readableRec t && decide (t < Try.prog.types.size)) = true := by kernel_rfl
  intro t ht; have := List.all_eq_true.1 h t ht; simpa using this
set_option maxRecDepth 100000 in
theorem calls (H : Type) (enc : TypeId × Value → H) (W : World) (base : Nat) (args : Array Value) (ds : List (DataW H)) (before : List MemPlace)
    (hval : ∀ (j : Nat) t v, Try.f4.params[j]? = some t → args[j]? = some v → Value.okWide Try.prog W .any base t v)
    (hA : DataW.TrodAll enc Try.prog W 0 (fun _ => true) true Try.f4.params.toList args.toList ds before) (hz : (DataW.weightsEach Try.prog Try.f4.params.toList ds).all (· ≤ reachBytes) = true) :
    Calls Try.prog 4 args W (Law.Yes W) := by
  rw [Try.params4] at hA hval hz
  obtain ⟨v0, vs0, d0, ds0, p0, q0, hargs, rfl, rfl, h0, r0⟩ := trodAll_cons hA
  obtain ⟨v1, vs1, d1, ds1, p1, q1, rfl, rfl, rfl, h1, r1⟩ := trodAll_cons r0
  obtain ⟨v2, vs2, d2, ds2, p2, q2, rfl, rfl, rfl, h2, r2⟩ := trodAll_cons r1
  obtain ⟨rfl, rfl, rfl⟩ := trodAll_nil r2
  obtain rfl : args = #[v0, v1, v2] := by cases args; simp_all
  exact walk (W := W) (hval 0 24 v0 rfl rfl) h0 (hval 1 27 v1 rfl rfl) h1 (hval 2 36 v2 rfl rfl) h2 hz
theorem fnOf (H : Type) : ∀ ds : List (DataW H), ds.length = Try.f4.params.toList.length → Rows.mapsApplySpec.fn H ds = { results := [.lit (.bool true)], args := ds } := by
  intro ds h
  have h : ds.length = 3 := h
  obtain _ | ⟨x0, ds⟩ := ds
  · simp at h
  obtain _ | ⟨x1, ds⟩ := ds
  · simp at h
  obtain _ | ⟨x2, ds⟩ := ds
  · simp at h
  obtain rfl : ds = [] := List.eq_nil_of_length_eq_zero (by simpa using h)
  rfl
set_option maxRecDepth 100000 in
theorem lifted (os : Os) (started : os.Started) (H : Type) (enc : TypeId × Value → H) :
    ReturnsInHanded {} Try.checked os 4 .any (Rows.mapsApplySpec.pre6 enc Try.prog Try.f4 Rows.mapsApplyRow.domain false) (Rows.mapsApplySpec.post enc Try.prog Try.f4 false true false false) := by
  refine returnsInHanded_of_change_sized (C := Try.checked) own started (by kernel_rfl) Try.func4
    (ChangeSpec.witness6 (enc := enc) (C := Try.checked) false ⟨#[], #[.agg #[.int .i64 0, .slice none 0 0], .agg #[.int .i64 0, .slice none 0 0], .slice none 0 0], []⟩ 8 (by kernel_rfl) (by kernel_rfl) (by kernel_rfl) (by kernel_rfl)) ?_
  intro W base args ds gs before hval hW _ hz _
  obtain ⟨p, q, hA, hV, rfl, hfz, hnd⟩ := id hW
  obtain ⟨rfl, rfl⟩ := trodVars_none hV
  simp only [List.append_nil] at hz
  have hz2 : (DataW.weightsEach Try.prog Try.f4.params.toList ds).all (· ≤ reachBytes) = true := hz
  exact Law.ending (C := Try.checked) (s := Rows.mapsApplySpec) laid pars rfl Try.underlying4 rfl (fnOf H) hW (calls H enc W base args ds p hval hA hz2)
theorem over : Rows.mapsApplyRow.holds Try.pinned (OpenSpec.ofChange Rows.mapsApplySpec) :=
  OpenClaim.holds_of_wide 4 Try.f4 rfl rfl rfl rfl rfl rfl rfl ⟨rfl, rfl, rfl, rfl, rfl⟩ rfl rfl rfl rfl rfl (by kernel_rfl) Try.func4 (by kernel_rfl)
    (of_decide_eq_true (by kernel_rfl)) (by unfold Func.isWrapper; first | (rw [if_pos (by decide +kernel)]; kernel_rfl) | (rw [if_neg (by decide +kernel)]; exact ⟨rfl, rfl⟩))
    (fun os started H enc _ => lifted os started H enc)
theorem proved : Rows.MapsApplySaid := over
end Go.Proofs.Ytmijjaihedbjgaa.mapsApply
