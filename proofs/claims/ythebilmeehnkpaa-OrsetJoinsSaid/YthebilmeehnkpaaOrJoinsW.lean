/-
  OrsetJoins, walked over what the laws take of the program and over the document's own answer.
-/
import Derived.Test.YthebilmeehnkpaaOrRef5
import Derived.Test.YthebilmeehnkpaaLaw
namespace Go.Proofs.Ythebilmeehnkpaa.Ors
set_option linter.unusedVariables false
set_option linter.unusedSimpArgs false
open Go.RowKit Mem Gt
open Jump (Gave equalZ_c)

/-- The document's own answer. -/
def QJoinSpec : Prop := ∀ (H S H2 S2 : Option Addr) (nh ch ns cs nh2 ch2 ns2 cs2 : Nat) (a b : Bg) (V : World) (p : Bg) (mh ms : Nat) (e : Int), HB V H S nh ch ns cs a → HB V H2 S2 nh2 ch2 ns2 cs2 b → joinE a b = e → joinB a b = p → p.1.length = mh → p.2.length = ms →
  Calls Try.prog 21 #[.agg #[.slice H nh ch, .slice S ns cs], .agg #[.slice H2 nh2 ch2, .slice S2 ns2 cs2]] V (BOut p mh ms e V)
set_option maxRecDepth 100000 in
set_option maxHeartbeats 16000000 in
theorem joins_w (hJ : JoinSpec) (hQ : QJoinSpec) (H S H2 S2 : Option Addr) (nh ch ns cs nh2 ch2 ns2 cs2 : Nat) (a b : Bg) (W : World) (h : HB W H S nh ch ns cs a) (h2 : HB W H2 S2 nh2 ch2 ns2 cs2 b) :
    Calls Try.prog 4 #[.agg #[.slice H nh ch, .slice S ns cs], .agg #[.slice H2 nh2 ch2, .slice S2 ns2 cs2]] W (Law.Yes W) := by
  have B0 := Lib.hid (show Below W.heap.size W ((W.alloc (.cells #[.slice H nh ch, .slice S ns cs] 25)).alloc (.cells #[.slice H2 nh2 ch2, .slice S2 ns2 cs2] 25)) from (low_lit W _).alloc (by simp) _)
  have X0 := Lib.hid ((HG.new h rfl).alloc (.cells #[.slice H2 nh2 ch2, .slice S2 ns2 cs2] 25))
  have Y0 := Lib.hid (HG.new (g := W.heap.size + 1) (h2.below (low_lit W (.cells #[.slice H nh ch, .slice S ns cs] 25))) (by simp))
  obtain ⟨e, he⟩ : ∃ e, joinE a b = e := ⟨_, rfl⟩
  obtain ⟨p, hp⟩ : ∃ p, joinB a b = p := ⟨_, rfl⟩
  obtain ⟨mh, hmh⟩ : ∃ n, p.1.length = n := ⟨_, rfl⟩
  obtain ⟨ms, hms⟩ : ∃ n, p.2.length = n := ⟨_, rfl⟩
  have HE := Lib.hid he
  have HP := Lib.hid hp
  have HMH := Lib.hid hmh
  have HMS := Lib.hid hms
  have e1 : (e == e) = true := by simp
  clear h h2 he hp hmh hms
  go_enter Try.func4, Try.ntmps4
  have C1 := Lib.hid (hJ _ _ _ _ _ _ _ _ _ _ _ _ _ _ _ p mh ms e X0.out.2.2 Y0.out.2.2 HE.out HP.out HMH.out HMS.out)
  obtain ⟨X_0, X_1, -⟩ := X0.out
  obtain ⟨Y_0, Y_1, -⟩ := Y0.out
  go_wp2_with fail
  refine C1.out.mono ?_
  rintro e w1 ⟨H1, S1, hc1, sc1, rfl, hv, hb⟩
  clear X_0 X_1 Y_0 Y_1
  have Xr1 := Lib.hid (X0.out.below hb)
  have Yr1 := Lib.hid (Y0.out.below hb)
  have Br1 := Lib.hid (B0.out.trans (hb.mono B0.out.size))
  clear X0 Y0 B0
  have Xa1 := Lib.hid (Xr1.out.alloc (.cells #[.slice H1 mh hc1, .slice S1 ms sc1] 25))
  have Ya1 := Lib.hid (Yr1.out.alloc (.cells #[.slice H1 mh hc1, .slice S1 ms sc1] 25))
  have Ba1 := Lib.hid (Br1.out.alloc Br1.out.size (.cells #[.slice H1 mh hc1, .slice S1 ms sc1] 25))
  have Pa1 := Lib.hid (HG.new hv (rfl : w1.heap.size = w1.heap.size))
  clear hv hb C1 Xr1 Yr1 Br1
  obtain ⟨X_0, X_1, -⟩ := Xa1.out
  obtain ⟨Y_0, Y_1, -⟩ := Ya1.out
  obtain ⟨P_0, P_1, -⟩ := Pa1.out
  have C2 := Lib.hid (hQ _ _ _ _ _ _ _ _ _ _ _ _ _ _ _ p mh ms e Xa1.out.2.2 Ya1.out.2.2 HE.out HP.out HMH.out HMS.out)
  clear X_0 X_1 Y_0 Y_1 P_0 P_1
  obtain ⟨X_0, X_1, -⟩ := Xa1.out
  obtain ⟨Y_0, Y_1, -⟩ := Ya1.out
  obtain ⟨P_0, P_1, -⟩ := Pa1.out
  go_wp2_with fail
  refine C2.out.mono ?_
  rintro e w2 ⟨H2, S2, hc2, sc2, rfl, hv, hb⟩
  clear X_0 X_1 Y_0 Y_1 P_0 P_1
  have Xr2 := Lib.hid (Xa1.out.below hb)
  have Yr2 := Lib.hid (Ya1.out.below hb)
  have Pr2 := Lib.hid (Pa1.out.below hb)
  have Br2 := Lib.hid (Ba1.out.trans (hb.mono Ba1.out.size))
  clear Xa1 Ya1 Pa1 Ba1
  have Xa2 := Lib.hid (Xr2.out.alloc (.cells #[.slice H2 mh hc2, .slice S2 ms sc2] 25))
  have Ya2 := Lib.hid (Yr2.out.alloc (.cells #[.slice H2 mh hc2, .slice S2 ms sc2] 25))
  have Pa2 := Lib.hid (Pr2.out.alloc (.cells #[.slice H2 mh hc2, .slice S2 ms sc2] 25))
  have Ba2 := Lib.hid (Br2.out.alloc Br2.out.size (.cells #[.slice H2 mh hc2, .slice S2 ms sc2] 25))
  have Qa2 := Lib.hid (HG.new hv (rfl : w2.heap.size = w2.heap.size))
  clear hv hb C2 Xr2 Yr2 Pr2 Br2
  obtain ⟨X_0, X_1, -⟩ := Xa2.out
  obtain ⟨Y_0, Y_1, -⟩ := Ya2.out
  obtain ⟨P_0, P_1, -⟩ := Pa2.out
  obtain ⟨Q_0, Q_1, -⟩ := Qa2.out
  have C3 := Lib.hid (samebag_c _ _ _ _ _ _ _ _ _ _ _ _ _ _ _ Pa2.out.2.2 Qa2.out.2.2 true (decide_eq_true rfl))
  go_wp2_with fail
  refine C3.out.mono ?_
  rintro e w3 ⟨rfl, hb⟩
  clear X_0 X_1 Y_0 Y_1 P_0 P_1 Q_0 Q_1
  have Xr3 := Lib.hid (Xa2.out.below hb)
  have Yr3 := Lib.hid (Ya2.out.below hb)
  have Pr3 := Lib.hid (Pa2.out.below hb)
  have Qr3 := Lib.hid (Qa2.out.below hb)
  have Br3 := Lib.hid (Ba2.out.trans (hb.mono Ba2.out.size))
  clear Xa2 Ya2 Pa2 Qa2 Ba2
  clear hb C3
  obtain ⟨X_0, X_1, -⟩ := Xr3.out
  obtain ⟨Y_0, Y_1, -⟩ := Yr3.out
  obtain ⟨P_0, P_1, -⟩ := Pr3.out
  obtain ⟨Q_0, Q_1, -⟩ := Qr3.out
  go_wp2
  go_ret
  exact ⟨rfl, Br3.out⟩
end Go.Proofs.Ythebilmeehnkpaa.Ors
