/-
  MapsOnce: for all maps m and steps s, the law MapsOnce answers true (no step is applied twice, and none that is missing is left out), and its arguments read afterwards as before. No condition.
-/
import Derived.Test.YtmijjaihedbjgaaMpHold
namespace Go.Proofs.Ytmijjaihedbjgaa.mapsOnce
open Go.ChangeShapes Go.WideShapes Go.ChangeAt Go.RowKit
open Mem Mps
set_option linter.unusedVariables false
set_option linter.unusedSimpArgs false

/-- What the law's calls come to, as letters. -/
structure On (m1 : Int) (l : List Int) (n : Nat) (s1 : Int) (cs : List Ch) (lM : List Int) (k2 : Int) : Prop where
  ap : Says (apE (m1, l) (s1, cs)) (apM (m1, l) (s1, cs)) (m1 + 1) lM n 0
  len : lM.length = n
  two : Says (apE (m1 + 1, lM) (s1, cs)) (apM (m1 + 1, lM) (s1, cs)) 0 [] 0 k2
  out : Says (apE (m1, l) (s1 + 1, cs)) (apM (m1, l) (s1 + 1, cs)) 0 [] 0 2
theorem on_of {m1 : Int} {l : List Int} {n : Nat} {s1 : Int} {cs : List Ch} (hn : l.length = n) (h : apE (m1, l) (s1, cs) = 0) : ∃ k2, (k2 = 2 ∨ k2 = 4) ∧ On m1 l n s1 cs (chL cs l) k2 := by
  have e := apM_of h
  obtain ⟨u1, u2⟩ := apply_twice h
  rw [e] at u1
  have hl : (chL cs l).length = n := by rw [chL_len, hn]
  exact ⟨_, u1, ⟨h, e, hl⟩, hl, ⟨rfl, apM_bad (by rcases u1 with u1 | u1 <;> rw [u1] <;> decide), rfl⟩, ⟨u2, apM_bad (by rw [u2]; decide), rfl⟩⟩
set_option maxRecDepth 100000 in
set_option maxHeartbeats 16000000 in
theorem bad (m1 : Int) (A : Option Addr) (l : List Int) (n c : Nat) (s1 : Int) (C : Option Addr) (cs : List Ch) (q ca : Nat) (W : World) (hn : l.length = n) (hbig : n ≤ 17592186044416) (hx : Reads W A (ints l)) (hq : cs.length = q) (hqb : q ≤ 5864062014805) (hc : CRds W C cs)
    (k0 : Int) (ha : Says (apE (m1, l) (s1, cs)) (apM (m1, l) (s1, cs)) 0 [] 0 k0) (ha0 : k0 ≠ 0) :
    Calls Try.prog 7 #[.agg #[.int .i64 m1, .slice A n c], .agg #[.int .i64 s1, .slice C q ca]] W (Law.Yes W) := by
  have X0 := Lib.hid ((HM.new (e := m1) (n := n) (c := c) hx rfl).alloc (.cells #[.int .i64 s1, .slice C q ca] 27))
  have S0 := Lib.hid (HS.new (V := W.alloc (.cells #[.int .i64 m1, .slice A n c] 24)) (g := W.heap.size + 1) (e := s1) (n := q) (c := ca) (hc.below (below_alloc _ _)) (alloc2_size _ _))
  have B0 := Lib.hid (show Below W.heap.size W ((W.alloc (.cells #[.int .i64 m1, .slice A n c] 24)).alloc (.cells #[.int .i64 s1, .slice C q ca] 27)) from (below_alloc _ _).alloc (by simp) _)
  have HN := Lib.hid hn
  have HQ := Lib.hid hq
  clear hn hx hq hc
  have HA := Lib.hid ha
  have y0 : (k0 != 0) = true := by simpa using ha0
  clear ha0 ha
  go_enter Try.func7, Try.ntmps7
  obtain ⟨X_0, X_1, -⟩ := X0.out
  obtain ⟨S_0, S_1, -⟩ := S0.out
  go_wp2_with fail
  refine (alive_c _).mono ?_
  rintro e w1 ⟨rfl, hb⟩
  clear X_0 X_1 S_0 S_1
  have Xr1 := Lib.hid (X0.out.below hb)
  have Sr1 := Lib.hid (S0.out.below hb)
  have Br1 := Lib.hid (B0.out.trans (hb.mono B0.out.size))
  clear X0 S0
  clear hb
  obtain ⟨X_0, X_1, -⟩ := Xr1.out
  obtain ⟨S_0, S_1, -⟩ := Sr1.out
  go_wp2_with fail
  refine (apply_c _ _ l n _ _ _ cs q _ _ HN.out hbig Xr1.out.2.2 HQ.out hqb Sr1.out.2.2 0 [] 0 k0 HA.out).mono ?_
  rintro e w2 ⟨A2, c2, rfl, hr, hb, -⟩
  clear X_0 X_1 S_0 S_1
  have Xr2 := Lib.hid (Xr1.out.below hb)
  have Sr2 := Lib.hid (Sr1.out.below hb)
  have Br2 := Lib.hid (Br1.out.trans (hb.mono Br1.out.size))
  clear Xr1 Sr1
  have Xa2 := Lib.hid (Xr2.out.alloc (.cells #[.int .i64 (0 : Int), .slice A2 0 c2] 24))
  have Sa2 := Lib.hid (Sr2.out.alloc (.cells #[.int .i64 (0 : Int), .slice A2 0 c2] 24))
  have Ba2 := Lib.hid (Br2.out.alloc Br2.out.size (.cells #[.int .i64 (0 : Int), .slice A2 0 c2] 24))
  have Pa2 := Lib.hid (HM.new (e := (0 : Int)) (n := 0) (c := c2) hr (rfl : w2.heap.size = w2.heap.size))
  clear hr hb Xr2 Sr2
  obtain ⟨X_0, X_1, -⟩ := Xa2.out
  obtain ⟨S_0, S_1, -⟩ := Sa2.out
  obtain ⟨P_0, P_1, -⟩ := Pa2.out
  go_wp2
  go_ret
  exact ⟨rfl, Ba2.out⟩
set_option maxRecDepth 100000 in
set_option maxHeartbeats 16000000 in
theorem good2 (m1 : Int) (A : Option Addr) (l : List Int) (n c : Nat) (s1 : Int) (C : Option Addr) (cs : List Ch) (q ca : Nat) (W : World) (hn : l.length = n) (hbig : n ≤ 17592186044416) (hx : Reads W A (ints l)) (hq : cs.length = q) (hqb : q ≤ 5864062014805) (hc : CRds W C cs)
    (lM : List Int) (ho : On m1 l n s1 cs lM 2) (h1 : -9223372036854775808 ≤ s1 + 1) (h2 : s1 + 1 ≤ 9223372036854775807) (h3 : -9223372036854775808 ≤ m1 + 1) (h4 : m1 + 1 ≤ 9223372036854775807) :
    Calls Try.prog 7 #[.agg #[.int .i64 m1, .slice A n c], .agg #[.int .i64 s1, .slice C q ca]] W (Law.Yes W) := by
  have w1 : IntKind.i64.wrap (s1 + 1) = s1 + 1 := IntWalk.i64_in _ (by omega)
  have w2 : IntKind.i64.wrap (m1 + 1) = m1 + 1 := IntWalk.i64_in _ (by omega)
  have y1 : (m1 + 1 == m1 + 1) = true := by simp
  have X0 := Lib.hid ((HM.new (e := m1) (n := n) (c := c) hx rfl).alloc (.cells #[.int .i64 s1, .slice C q ca] 27))
  have S0 := Lib.hid (HS.new (V := W.alloc (.cells #[.int .i64 m1, .slice A n c] 24)) (g := W.heap.size + 1) (e := s1) (n := q) (c := ca) (hc.below (below_alloc _ _)) (alloc2_size _ _))
  have B0 := Lib.hid (show Below W.heap.size W ((W.alloc (.cells #[.int .i64 m1, .slice A n c] 24)).alloc (.cells #[.int .i64 s1, .slice C q ca] 27)) from (below_alloc _ _).alloc (by simp) _)
  have HN := Lib.hid hn
  have HQ := Lib.hid hq
  clear hn hx hq hc
  have HO := Lib.hid ho
  clear ho h1 h2 h3 h4
  go_enter Try.func7, Try.ntmps7
  obtain ⟨X_0, X_1, -⟩ := X0.out
  obtain ⟨S_0, S_1, -⟩ := S0.out
  go_wp2_with fail
  refine (alive_c _).mono ?_
  rintro e w1 ⟨rfl, hb⟩
  clear X_0 X_1 S_0 S_1
  have Xr1 := Lib.hid (X0.out.below hb)
  have Sr1 := Lib.hid (S0.out.below hb)
  have Br1 := Lib.hid (B0.out.trans (hb.mono B0.out.size))
  clear X0 S0
  clear hb
  obtain ⟨X_0, X_1, -⟩ := Xr1.out
  obtain ⟨S_0, S_1, -⟩ := Sr1.out
  go_wp2_with fail
  refine (apply_c _ _ l n _ _ _ cs q _ _ HN.out hbig Xr1.out.2.2 HQ.out hqb Sr1.out.2.2 (m1 + 1) lM n 0 HO.out.ap).mono ?_
  rintro e w2 ⟨A2, c2, rfl, hr, hb, -⟩
  clear X_0 X_1 S_0 S_1
  have Xr2 := Lib.hid (Xr1.out.below hb)
  have Sr2 := Lib.hid (Sr1.out.below hb)
  have Br2 := Lib.hid (Br1.out.trans (hb.mono Br1.out.size))
  clear Xr1 Sr1
  have Xa2 := Lib.hid (Xr2.out.alloc (.cells #[.int .i64 (m1 + 1), .slice A2 n c2] 24))
  have Sa2 := Lib.hid (Sr2.out.alloc (.cells #[.int .i64 (m1 + 1), .slice A2 n c2] 24))
  have Ba2 := Lib.hid (Br2.out.alloc Br2.out.size (.cells #[.int .i64 (m1 + 1), .slice A2 n c2] 24))
  have Pa2 := Lib.hid (HM.new (e := (m1 + 1)) (n := n) (c := c2) hr (rfl : w2.heap.size = w2.heap.size))
  clear hr hb Xr2 Sr2
  obtain ⟨X_0, X_1, -⟩ := Xa2.out
  obtain ⟨S_0, S_1, -⟩ := Sa2.out
  obtain ⟨P_0, P_1, -⟩ := Pa2.out
  go_wp2_with fail
  refine (apply_c _ _ lM n _ _ _ cs q _ _ HO.out.len hbig Pa2.out.2.2 HQ.out hqb Sa2.out.2.2 0 [] 0 2 HO.out.two).mono ?_
  rintro e w3 ⟨A3, c3, rfl, hr, hb, -⟩
  clear X_0 X_1 S_0 S_1 P_0 P_1
  have Xr3 := Lib.hid (Xa2.out.below hb)
  have Sr3 := Lib.hid (Sa2.out.below hb)
  have Pr3 := Lib.hid (Pa2.out.below hb)
  have Br3 := Lib.hid (Ba2.out.trans (hb.mono Ba2.out.size))
  clear Xa2 Sa2 Pa2
  have Xa3 := Lib.hid (Xr3.out.alloc (.cells #[.int .i64 (0 : Int), .slice A3 0 c3] 24))
  have Sa3 := Lib.hid (Sr3.out.alloc (.cells #[.int .i64 (0 : Int), .slice A3 0 c3] 24))
  have Pa3 := Lib.hid (Pr3.out.alloc (.cells #[.int .i64 (0 : Int), .slice A3 0 c3] 24))
  have Ba3 := Lib.hid (Br3.out.alloc Br3.out.size (.cells #[.int .i64 (0 : Int), .slice A3 0 c3] 24))
  have Qa3 := Lib.hid (HM.new (e := (0 : Int)) (n := 0) (c := c3) hr (rfl : w3.heap.size = w3.heap.size))
  clear hr hb Xr3 Sr3 Pr3
  obtain ⟨X_0, X_1, -⟩ := Xa3.out
  obtain ⟨S_0, S_1, -⟩ := Sa3.out
  obtain ⟨P_0, P_1, -⟩ := Pa3.out
  obtain ⟨Q_0, Q_1, -⟩ := Qa3.out
  go_wp2_with fail
  refine (apply_c _ _ l n _ (s1 + 1) _ cs q _ _ HN.out hbig Xa3.out.2.2 HQ.out hqb Sa3.out.2.2 0 [] 0 2 HO.out.out).mono ?_
  rintro e w4 ⟨A4, c4, rfl, hr, hb, -⟩
  clear X_0 X_1 S_0 S_1 P_0 P_1 Q_0 Q_1
  have Xr4 := Lib.hid (Xa3.out.below hb)
  have Sr4 := Lib.hid (Sa3.out.below hb)
  have Pr4 := Lib.hid (Pa3.out.below hb)
  have Qr4 := Lib.hid (Qa3.out.below hb)
  have Br4 := Lib.hid (Ba3.out.trans (hb.mono Ba3.out.size))
  clear Xa3 Sa3 Pa3 Qa3
  have Xa4 := Lib.hid (Xr4.out.alloc (.cells #[.int .i64 (0 : Int), .slice A4 0 c4] 24))
  have Sa4 := Lib.hid (Sr4.out.alloc (.cells #[.int .i64 (0 : Int), .slice A4 0 c4] 24))
  have Pa4 := Lib.hid (Pr4.out.alloc (.cells #[.int .i64 (0 : Int), .slice A4 0 c4] 24))
  have Qa4 := Lib.hid (Qr4.out.alloc (.cells #[.int .i64 (0 : Int), .slice A4 0 c4] 24))
  have Ba4 := Lib.hid (Br4.out.alloc Br4.out.size (.cells #[.int .i64 (0 : Int), .slice A4 0 c4] 24))
  have Ra4 := Lib.hid (HM.new (e := (0 : Int)) (n := 0) (c := c4) hr (rfl : w4.heap.size = w4.heap.size))
  clear hr hb Xr4 Sr4 Pr4 Qr4
  obtain ⟨X_0, X_1, -⟩ := Xa4.out
  obtain ⟨S_0, S_1, -⟩ := Sa4.out
  obtain ⟨P_0, P_1, -⟩ := Pa4.out
  obtain ⟨Q_0, Q_1, -⟩ := Qa4.out
  obtain ⟨R_0, R_1, -⟩ := Ra4.out
  go_wp2
  go_ret
  exact ⟨rfl, Ba4.out⟩
set_option maxRecDepth 100000 in
set_option maxHeartbeats 16000000 in
theorem good4 (m1 : Int) (A : Option Addr) (l : List Int) (n c : Nat) (s1 : Int) (C : Option Addr) (cs : List Ch) (q ca : Nat) (W : World) (hn : l.length = n) (hbig : n ≤ 17592186044416) (hx : Reads W A (ints l)) (hq : cs.length = q) (hqb : q ≤ 5864062014805) (hc : CRds W C cs)
    (lM : List Int) (ho : On m1 l n s1 cs lM 4) (h1 : -9223372036854775808 ≤ s1 + 1) (h2 : s1 + 1 ≤ 9223372036854775807) (h3 : -9223372036854775808 ≤ m1 + 1) (h4 : m1 + 1 ≤ 9223372036854775807) :
    Calls Try.prog 7 #[.agg #[.int .i64 m1, .slice A n c], .agg #[.int .i64 s1, .slice C q ca]] W (Law.Yes W) := by
  have w1 : IntKind.i64.wrap (s1 + 1) = s1 + 1 := IntWalk.i64_in _ (by omega)
  have w2 : IntKind.i64.wrap (m1 + 1) = m1 + 1 := IntWalk.i64_in _ (by omega)
  have y1 : (m1 + 1 == m1 + 1) = true := by simp
  have X0 := Lib.hid ((HM.new (e := m1) (n := n) (c := c) hx rfl).alloc (.cells #[.int .i64 s1, .slice C q ca] 27))
  have S0 := Lib.hid (HS.new (V := W.alloc (.cells #[.int .i64 m1, .slice A n c] 24)) (g := W.heap.size + 1) (e := s1) (n := q) (c := ca) (hc.below (below_alloc _ _)) (alloc2_size _ _))
  have B0 := Lib.hid (show Below W.heap.size W ((W.alloc (.cells #[.int .i64 m1, .slice A n c] 24)).alloc (.cells #[.int .i64 s1, .slice C q ca] 27)) from (below_alloc _ _).alloc (by simp) _)
  have HN := Lib.hid hn
  have HQ := Lib.hid hq
  clear hn hx hq hc
  have HO := Lib.hid ho
  clear ho h1 h2 h3 h4
  go_enter Try.func7, Try.ntmps7
  obtain ⟨X_0, X_1, -⟩ := X0.out
  obtain ⟨S_0, S_1, -⟩ := S0.out
  go_wp2_with fail
  refine (alive_c _).mono ?_
  rintro e w1 ⟨rfl, hb⟩
  clear X_0 X_1 S_0 S_1
  have Xr1 := Lib.hid (X0.out.below hb)
  have Sr1 := Lib.hid (S0.out.below hb)
  have Br1 := Lib.hid (B0.out.trans (hb.mono B0.out.size))
  clear X0 S0
  clear hb
  obtain ⟨X_0, X_1, -⟩ := Xr1.out
  obtain ⟨S_0, S_1, -⟩ := Sr1.out
  go_wp2_with fail
  refine (apply_c _ _ l n _ _ _ cs q _ _ HN.out hbig Xr1.out.2.2 HQ.out hqb Sr1.out.2.2 (m1 + 1) lM n 0 HO.out.ap).mono ?_
  rintro e w2 ⟨A2, c2, rfl, hr, hb, -⟩
  clear X_0 X_1 S_0 S_1
  have Xr2 := Lib.hid (Xr1.out.below hb)
  have Sr2 := Lib.hid (Sr1.out.below hb)
  have Br2 := Lib.hid (Br1.out.trans (hb.mono Br1.out.size))
  clear Xr1 Sr1
  have Xa2 := Lib.hid (Xr2.out.alloc (.cells #[.int .i64 (m1 + 1), .slice A2 n c2] 24))
  have Sa2 := Lib.hid (Sr2.out.alloc (.cells #[.int .i64 (m1 + 1), .slice A2 n c2] 24))
  have Ba2 := Lib.hid (Br2.out.alloc Br2.out.size (.cells #[.int .i64 (m1 + 1), .slice A2 n c2] 24))
  have Pa2 := Lib.hid (HM.new (e := (m1 + 1)) (n := n) (c := c2) hr (rfl : w2.heap.size = w2.heap.size))
  clear hr hb Xr2 Sr2
  obtain ⟨X_0, X_1, -⟩ := Xa2.out
  obtain ⟨S_0, S_1, -⟩ := Sa2.out
  obtain ⟨P_0, P_1, -⟩ := Pa2.out
  go_wp2_with fail
  refine (apply_c _ _ lM n _ _ _ cs q _ _ HO.out.len hbig Pa2.out.2.2 HQ.out hqb Sa2.out.2.2 0 [] 0 4 HO.out.two).mono ?_
  rintro e w3 ⟨A3, c3, rfl, hr, hb, -⟩
  clear X_0 X_1 S_0 S_1 P_0 P_1
  have Xr3 := Lib.hid (Xa2.out.below hb)
  have Sr3 := Lib.hid (Sa2.out.below hb)
  have Pr3 := Lib.hid (Pa2.out.below hb)
  have Br3 := Lib.hid (Ba2.out.trans (hb.mono Ba2.out.size))
  clear Xa2 Sa2 Pa2
  have Xa3 := Lib.hid (Xr3.out.alloc (.cells #[.int .i64 (0 : Int), .slice A3 0 c3] 24))
  have Sa3 := Lib.hid (Sr3.out.alloc (.cells #[.int .i64 (0 : Int), .slice A3 0 c3] 24))
  have Pa3 := Lib.hid (Pr3.out.alloc (.cells #[.int .i64 (0 : Int), .slice A3 0 c3] 24))
  have Ba3 := Lib.hid (Br3.out.alloc Br3.out.size (.cells #[.int .i64 (0 : Int), .slice A3 0 c3] 24))
  have Qa3 := Lib.hid (HM.new (e := (0 : Int)) (n := 0) (c := c3) hr (rfl : w3.heap.size = w3.heap.size))
  clear hr hb Xr3 Sr3 Pr3
  obtain ⟨X_0, X_1, -⟩ := Xa3.out
  obtain ⟨S_0, S_1, -⟩ := Sa3.out
  obtain ⟨P_0, P_1, -⟩ := Pa3.out
  obtain ⟨Q_0, Q_1, -⟩ := Qa3.out
  go_wp2_with fail
  refine (apply_c _ _ l n _ (s1 + 1) _ cs q _ _ HN.out hbig Xa3.out.2.2 HQ.out hqb Sa3.out.2.2 0 [] 0 2 HO.out.out).mono ?_
  rintro e w4 ⟨A4, c4, rfl, hr, hb, -⟩
  clear X_0 X_1 S_0 S_1 P_0 P_1 Q_0 Q_1
  have Xr4 := Lib.hid (Xa3.out.below hb)
  have Sr4 := Lib.hid (Sa3.out.below hb)
  have Pr4 := Lib.hid (Pa3.out.below hb)
  have Qr4 := Lib.hid (Qa3.out.below hb)
  have Br4 := Lib.hid (Ba3.out.trans (hb.mono Ba3.out.size))
  clear Xa3 Sa3 Pa3 Qa3
  have Xa4 := Lib.hid (Xr4.out.alloc (.cells #[.int .i64 (0 : Int), .slice A4 0 c4] 24))
  have Sa4 := Lib.hid (Sr4.out.alloc (.cells #[.int .i64 (0 : Int), .slice A4 0 c4] 24))
  have Pa4 := Lib.hid (Pr4.out.alloc (.cells #[.int .i64 (0 : Int), .slice A4 0 c4] 24))
  have Qa4 := Lib.hid (Qr4.out.alloc (.cells #[.int .i64 (0 : Int), .slice A4 0 c4] 24))
  have Ba4 := Lib.hid (Br4.out.alloc Br4.out.size (.cells #[.int .i64 (0 : Int), .slice A4 0 c4] 24))
  have Ra4 := Lib.hid (HM.new (e := (0 : Int)) (n := 0) (c := c4) hr (rfl : w4.heap.size = w4.heap.size))
  clear hr hb Xr4 Sr4 Pr4 Qr4
  obtain ⟨X_0, X_1, -⟩ := Xa4.out
  obtain ⟨S_0, S_1, -⟩ := Sa4.out
  obtain ⟨P_0, P_1, -⟩ := Pa4.out
  obtain ⟨Q_0, Q_1, -⟩ := Qa4.out
  obtain ⟨R_0, R_1, -⟩ := Ra4.out
  go_wp2
  go_ret
  exact ⟨rfl, Ba4.out⟩
set_option maxRecDepth 100000 in
theorem walk {H : Type} {enc : TypeId × Value → H} {base : Nat} {W : World} {v0 : Value} {d0 : DataW H} {p0 : List MemPlace}
    (o0 : Value.okWide Try.prog W .any base 24 v0) (h0 : DataW.Trod enc Try.prog W 0 (fun _ => true) true 24 v0 d0 p0) {v1 : Value} {d1 : DataW H} {p1 : List MemPlace}
    (o1 : Value.okWide Try.prog W .any base 27 v1) (h1 : DataW.Trod enc Try.prog W 0 (fun _ => true) true 27 v1 d1 p1)
    (hz : (DataW.weightsEach Try.prog [24, 27] [d0, d1]).all (· ≤ reachBytes) = true) :
    Calls Try.prog 7 #[v0, v1] W (Law.Yes W) := by
  obtain ⟨m1, A, l, n, c, rfl, _, hn, hnb, hx⟩ := open_mapZ o0 h0 hz (j := 0) rfl rfl
  obtain ⟨s1, C, cs, q, ca, rfl, _, hq, hqb, hc⟩ := open_stepZ o1 h1 hz (j := 1) rfl rfl
  by_cases h : apE (m1, l) (s1, cs) = 0
  · obtain ⟨⟨e1, e2, _⟩, _, _, e4, _⟩ := apE_zero.1 h
    simp only at e1 e2 e4
    obtain ⟨k2, hk, ho⟩ := on_of hn h
    rcases hk with rfl | rfl
    · exact good2 m1 A l n c s1 C cs q ca W hn hnb hx hq hqb hc _ ho (by omega) (by omega) (by omega) (by omega)
    · exact good4 m1 A l n c s1 C cs q ca W hn hnb hx hq hqb hc _ ho (by omega) (by omega) (by omega) (by omega)
  · exact bad m1 A l n c s1 C cs q ca W hn hnb hx hq hqb hc _ ⟨rfl, apM_bad h, rfl⟩ h
theorem own : ownKnob Try.prog.godebug = none := by kernel_rfl
theorem laid : laidOutB Try.prog = true := by kernel_rfl
theorem pars : ∀ t ∈ Try.f7.params.toList, Try.prog.readableRec t = true ∧ t < Try.prog.types.size := by
  have h : Try.f7.params.toList.all (fun t => Try.prog.readableRec t && decide (t < Try.prog.types.size)) = true := by kernel_rfl
  intro t ht; have := List.all_eq_true.1 h t ht; simpa using this
set_option maxRecDepth 100000 in
theorem calls (H : Type) (enc : TypeId × Value → H) (W : World) (base : Nat) (args : Array Value) (ds : List (DataW H)) (before : List MemPlace)
    (hval : ∀ (j : Nat) t v, Try.f7.params[j]? = some t → args[j]? = some v → Value.okWide Try.prog W .any base t v)
    (hA : DataW.TrodAll enc Try.prog W 0 (fun _ => true) true Try.f7.params.toList args.toList ds before) (hz : (DataW.weightsEach Try.prog Try.f7.params.toList ds).all (· ≤ reachBytes) = true) :
    Calls Try.prog 7 args W (Law.Yes W) := by
  rw [Try.params7] at hA hval hz
  obtain ⟨v0, vs0, d0, ds0, p0, q0, hargs, rfl, rfl, h0, r0⟩ := trodAll_cons hA
  obtain ⟨v1, vs1, d1, ds1, p1, q1, rfl, rfl, rfl, h1, r1⟩ := trodAll_cons r0
  obtain ⟨rfl, rfl, rfl⟩ := trodAll_nil r1
  obtain rfl : args = #[v0, v1] := by cases args; simp_all
  exact walk (W := W) (hval 0 24 v0 rfl rfl) h0 (hval 1 27 v1 rfl rfl) h1 hz
theorem fnOf (H : Type) : ∀ ds : List (DataW H), ds.length = Try.f7.params.toList.length → Rows.mapsOnceSpec.fn H ds = { results := [.lit (.bool true)], args := ds } := by
  intro ds h
  have h : ds.length = 2 := h
  obtain _ | ⟨x0, ds⟩ := ds
  · simp at h
  obtain _ | ⟨x1, ds⟩ := ds
  · simp at h
  obtain rfl : ds = [] := List.eq_nil_of_length_eq_zero (by simpa using h)
  rfl
set_option maxRecDepth 100000 in
theorem lifted (os : Os) (started : os.Started) (H : Type) (enc : TypeId × Value → H) :
    ReturnsInHanded {} Try.checked os 7 .any (Rows.mapsOnceSpec.pre6 enc Try.prog Try.f7 Rows.mapsOnceRow.domain false) (Rows.mapsOnceSpec.post enc Try.prog Try.f7 false true false false) := by
  refine returnsInHanded_of_change_sized (C := Try.checked) own started (by kernel_rfl) Try.func7
    (ChangeSpec.witness6 (enc := enc) (C := Try.checked) false ⟨#[], #[.agg #[.int .i64 0, .slice none 0 0], .agg #[.int .i64 0, .slice none 0 0]], []⟩ 8 (by kernel_rfl) (by kernel_rfl) (by kernel_rfl) (by kernel_rfl)) ?_
  intro W base args ds gs before hval hW _ hz _
  obtain ⟨p, q, hA, hV, rfl, hfz, hnd⟩ := id hW
  obtain ⟨rfl, rfl⟩ := trodVars_none hV
  simp only [List.append_nil] at hz
  have hz2 : (DataW.weightsEach Try.prog Try.f7.params.toList ds).all (· ≤ reachBytes) = true := hz
  exact Law.ending (C := Try.checked) (s := Rows.mapsOnceSpec) laid pars rfl Try.underlying4 rfl (fnOf H) hW (calls H enc W base args ds p hval hA hz2)
theorem over : Rows.mapsOnceRow.holds Try.pinned (OpenSpec.ofChange Rows.mapsOnceSpec) :=
  OpenClaim.holds_of_wide 7 Try.f7 rfl rfl rfl rfl rfl rfl rfl ⟨rfl, rfl, rfl, rfl, rfl⟩ rfl rfl rfl rfl rfl (by kernel_rfl) Try.func7 (by kernel_rfl)
    (of_decide_eq_true (by kernel_rfl)) (by unfold Func.isWrapper; first | (rw [if_pos (by decide +kernel)]; kernel_rfl) | (rw [if_neg (by decide +kernel)]; exact ⟨rfl, rfl⟩))
    (fun os started H enc _ => lifted os started H enc)
theorem proved : Rows.MapsOnceSaid := over
end Go.Proofs.Ytmijjaihedbjgaa.mapsOnce
