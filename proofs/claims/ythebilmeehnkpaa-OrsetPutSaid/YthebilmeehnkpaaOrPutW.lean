/-
  OrsetPut, walked over what the laws take of the program.
-/
import Derived.Test.YthebilmeehnkpaaOrAddsW
import Derived.Lib.QuietBelow
namespace Go.Proofs.Ythebilmeehnkpaa.Ors
set_option linter.unusedVariables false
set_option linter.unusedSimpArgs false
open Go.RowKit Mem Gt
open Jump (Gave equalZ_c)
open Go.Sort (grow)

set_option maxRecDepth 100000 in
set_option maxHeartbeats 16000000 in
theorem put_no (hN : NewSpec) (hR : RightSpec) (hP : PutSpec) (hD : DropSpec) (hA : AllSpec) (hJ : JoinSpec) (H S : Option Addr) (nh ch ns cs : Nat) (b : Bg) (who elem : Int) (W : World) (h : HB W H S nh ch ns cs b) (hw : (Lit.int .i64 who).wf = true) (hf : Fit elem) (e0 : Int) (he : putE b who = e0) (h0 : e0 ≠ 0) :
    Calls Try.prog 8 #[.agg #[.slice H nh ch, .slice S ns cs], .int .i64 who, .int .i64 elem] W (Law.Yes W) := by
  have B0 := Lib.hid (low_lit W (.cells #[.slice H nh ch, .slice S ns cs] 25))
  have X0 := Lib.hid (HG.new h rfl)
  have AL := Lib.hid (alive_c hN hP hD hA hJ (W.alloc (.cells #[.slice H nh ch, .slice S ns cs] 25)))
  have PB := Lib.hid (show putB b who elem = ([], []) from putB_no (by rw [he]; exact h0))
  have HE := Lib.hid he
  have HW := Lib.hid hw
  have HF := Lib.hid hf
  have q0 : (e0 != 0) = true := by simpa using h0
  clear h hw hf he h0
  go_enter Try.func8, Try.ntmps8
  have C1 := Lib.hid (AL.out)
  go_wp2_with fail
  refine C1.out.mono ?_
  rintro e w1 ⟨rfl, hb⟩
  have Xr1 := Lib.hid (X0.out.below hb)
  have Br1 := Lib.hid (B0.out.trans (hb.mono B0.out.size))
  clear X0 B0
  clear hb C1
  obtain ⟨X_0, X_1, -⟩ := Xr1.out
  have C2 := Lib.hid (hP _ _ _ _ _ _ _ who elem _ ([], []) 0 0 e0 Xr1.out.2.2 HW.out HF.out HE.out PB.out rfl rfl)
  clear X_0 X_1
  obtain ⟨X_0, X_1, -⟩ := Xr1.out
  go_wp2_with fail
  refine C2.out.mono ?_
  rintro e w2 ⟨H2, S2, hc2, sc2, rfl, hv, hb⟩
  clear X_0 X_1
  have Xr2 := Lib.hid (Xr1.out.below hb)
  have Br2 := Lib.hid (Br1.out.trans (hb.mono Br1.out.size))
  clear Xr1 Br1
  have Xa2 := Lib.hid (Xr2.out.alloc (.cells #[.slice H2 0 hc2, .slice S2 0 sc2] 25))
  have Ba2 := Lib.hid (Br2.out.alloc Br2.out.size (.cells #[.slice H2 0 hc2, .slice S2 0 sc2] 25))
  have Pa2 := Lib.hid (HG.new hv (rfl : w2.heap.size = w2.heap.size))
  clear hv hb C2 Xr2 Br2
  obtain ⟨X_0, X_1, -⟩ := Xa2.out
  obtain ⟨P_0, P_1, -⟩ := Pa2.out
  go_wp2
  go_ret
  exact ⟨rfl, Ba2.out⟩
set_option maxRecDepth 100000 in
set_option maxHeartbeats 16000000 in
theorem put_yes (hN : NewSpec) (hR : RightSpec) (hP : PutSpec) (hD : DropSpec) (hA : AllSpec) (hJ : JoinSpec) (H S : Option Addr) (nh ch ns cs : Nat) (b : Bg) (who elem : Int) (W : World) (h : HB W H S nh ch ns cs b) (hw : (Lit.int .i64 who).wf = true) (hf : Fit elem) (he : putE b who = 0) :
    Calls Try.prog 8 #[.agg #[.slice H nh ch, .slice S ns cs], .int .i64 who, .int .i64 elem] W (Law.Yes W) := by
  have B0 := Lib.hid (low_lit W (.cells #[.slice H nh ch, .slice S ns cs] 25))
  have X0 := Lib.hid (HG.new h rfl)
  have AL := Lib.hid (alive_c hN hP hD hA hJ (W.alloc (.cells #[.slice H nh ch, .slice S ns cs] 25)))
  obtain ⟨k, rfl, hp⟩ := putE_zero he
  have ok := hp.ok
  obtain ⟨p, hpp⟩ : ∃ p, p = (putH b k elem, bumpS b.2 k) := ⟨_, rfl⟩
  have okp : OkB p := by rw [hpp]; exact put_ok hp elem
  obtain ⟨d, hdd⟩ : ∃ d, d = dropB p elem := ⟨_, rfl⟩
  have okd : OkB d := by rw [hdd]; exact drop_ok okp elem
  obtain ⟨ph, hph⟩ : ∃ n, p.1.length = n := ⟨_, rfl⟩
  have hps : p.2.length = ns := by rw [hpp]; show (bumpS b.2 k).length = ns; rw [bump_len]; exact h.lenS
  have sd : d.2 = p.2 := by rw [hdd]; rfl
  obtain ⟨dh, hdh⟩ : ∃ n, d.1.length = n := ⟨_, rfl⟩
  obtain ⟨l, hl⟩ : ∃ l, elems p = l := ⟨_, rfl⟩
  obtain ⟨n, hn⟩ : ∃ n, l.length = n := ⟨_, rfl⟩
  obtain ⟨m, hm⟩ : ∃ m, elems d = m := ⟨_, rfl⟩
  obtain ⟨q, hq⟩ : ∃ q, m.length = q := ⟨_, rfl⟩
  have kn : k < ns := by rw [← h.lenS]; exact hp.lt
  obtain ⟨v0, hv0⟩ : ∃ v, sawAt b.2 k = v := ⟨_, rfl⟩
  have PB := Lib.hid (show putB b k elem = p by rw [hpp]; exact putB_of he)
  have DB := Lib.hid (show dropR p elem = d by rw [hdd]; exact dropR_of okp)
  have LB := Lib.hid (show allR p = l by rw [allR_of okp]; exact hl)
  have MB := Lib.hid (show allR d = m by rw [allR_of okd]; exact hm)
  have OP := Lib.hid (okE_zero.2 okp)
  have OD := Lib.hid (okE_zero.2 okd)
  have RP := Lib.hid (okB_iff.2 okp)
  have IN := Lib.hid (show decide (elem ∈ l) = true from decide_eq_true (by rw [← hl, hpp]; exact put_in b k elem _))
  have NO := Lib.hid (show decide (elem ∈ m) = false from decide_eq_false (by rw [← hm, hdd]; exact drop_out p elem))
  have SB := Lib.hid (show b.2[k]? = some v0 by rw [← hv0]; exact saw_get hp.lt)
  have SP := Lib.hid (show p.2[k]? = some (v0 + 1) by
    rw [hpp]
    have h1 := saw_get (s := bumpS b.2 k) (k := k) (by rw [bump_len]; exact hp.lt)
    have h2 := bump_at hp.lt (w := (k : Int)) (by omega)
    rw [if_pos rfl, hv0] at h2
    rw [h2] at h1
    exact h1)
  have vb : 0 ≤ v0 ∧ v0 ≤ 1099511627776 := ok.saw v0 (by rw [← hv0]; exact List.mem_of_getElem? (saw_get hp.lt))
  have wv : IntKind.i64.wrap (v0 + 1) = v0 + 1 := IntWalk.i64_in _ (by omega)
  have SD := Lib.hid sd
  have HE := Lib.hid he
  have HPH := Lib.hid hph
  have HPS := Lib.hid hps
  have HDH := Lib.hid hdh
  have HDS := Lib.hid (show d.2.length = ns by rw [sd]; exact hps)
  have HNN := Lib.hid hn
  have HQQ := Lib.hid hq
  have HW := Lib.hid hw
  have HF := Lib.hid hf
  have hn4 : n ≤ 400 := by rw [← hn, ← hl]; exact Nat.le_trans (elems_len p) okp.many
  have hq4 : q ≤ 400 := by rw [← hq, ← hm]; exact Nat.le_trans (elems_len d) okd.many
  have hns : ns ≤ 16 := by rw [← h.lenS]; exact ok.wide
  have k1 : decide ((k : Int) < 0) = false := decide_eq_false (by omega)
  have k2 : decide ((ns : Int) ≤ (k : Int)) = false := decide_eq_false (by omega)
  have k3 : ¬ (ns : Int) ≤ (k : Int) := by omega
  have k4 : ¬ ns ≤ k := by omega
  have k5 : (k : Int) < (ns : Int) := by omega
  have k6 : ¬ (k : Int) < 0 := by omega
  have e1 : (v0 + 1 == v0 + 1) = true := by simp
  clear h hw hf he hp ok hpp hdd okp okd hph hps hdh sd hl hn hm hq hv0 vb
  go_enter Try.func8, Try.ntmps8
  have C1 := Lib.hid (AL.out)
  go_wp2_with fail
  refine C1.out.mono ?_
  rintro e w1 ⟨rfl, hb⟩
  have Xr1 := Lib.hid (X0.out.below hb)
  have Br1 := Lib.hid (B0.out.trans (hb.mono B0.out.size))
  clear X0 B0
  clear hb C1
  obtain ⟨X_0, X_1, -⟩ := Xr1.out
  have C2 := Lib.hid (hP _ _ _ _ _ _ _ k elem _ p ph ns 0 Xr1.out.2.2 HW.out HF.out HE.out PB.out HPH.out HPS.out)
  clear X_0 X_1
  obtain ⟨X_0, X_1, -⟩ := Xr1.out
  go_wp2_with fail
  refine C2.out.mono ?_
  rintro e w2 ⟨H2, S2, hc2, sc2, rfl, hv, hb⟩
  clear X_0 X_1
  have Xr2 := Lib.hid (Xr1.out.below hb)
  have Br2 := Lib.hid (Br1.out.trans (hb.mono Br1.out.size))
  clear Xr1 Br1
  have Xa2 := Lib.hid (Xr2.out.alloc (.cells #[.slice H2 ph hc2, .slice S2 ns sc2] 25))
  have Ba2 := Lib.hid (Br2.out.alloc Br2.out.size (.cells #[.slice H2 ph hc2, .slice S2 ns sc2] 25))
  have Pa2 := Lib.hid (HG.new hv (rfl : w2.heap.size = w2.heap.size))
  clear hv hb C2 Xr2 Br2
  obtain ⟨X_0, X_1, -⟩ := Xa2.out
  obtain ⟨P_0, P_1, -⟩ := Pa2.out
  have C3 := Lib.hid (hA _ _ _ _ _ _ _ _ l n 0 Pa2.out.2.2 OP.out LB.out HNN.out)
  go_wp2_with fail
  refine C3.out.mono ?_
  rintro e w3 ⟨L3, lc3, rfl, hcap3, hv, hb⟩
  clear X_0 X_1 P_0 P_1
  have Xr3 := Lib.hid (Xa2.out.below hb)
  have Pr3 := Lib.hid (Pa2.out.below hb)
  have Br3 := Lib.hid (Ba2.out.trans (hb.mono Ba2.out.size))
  clear Xa2 Pa2 Ba2
  have Lr3 := Lib.hid hv
  clear hv hb C3 hcap3
  obtain ⟨X_0, X_1, -⟩ := Xr3.out
  obtain ⟨P_0, P_1, -⟩ := Pr3.out
  have C4 := Lib.hid (hD _ _ _ _ _ _ _ elem _ d dh ns 0 Pr3.out.2.2 HF.out OP.out DB.out HDH.out HDS.out)
  clear X_0 X_1 P_0 P_1
  obtain ⟨X_0, X_1, -⟩ := Xr3.out
  obtain ⟨P_0, P_1, -⟩ := Pr3.out
  go_wp2_with fail
  refine C4.out.mono ?_
  rintro e w4 ⟨H4, S4, hc4, sc4, rfl, hv, hb⟩
  clear X_0 X_1 P_0 P_1
  have Xr4 := Lib.hid (Xr3.out.below hb)
  have Pr4 := Lib.hid (Pr3.out.below hb)
  have Lr4 := Lib.hid (Lr3.out.below hb)
  have Br4 := Lib.hid (Br3.out.trans (hb.mono Br3.out.size))
  clear Xr3 Pr3 Lr3 Br3
  have Xa4 := Lib.hid (Xr4.out.alloc (.cells #[.slice H4 dh hc4, .slice S4 ns sc4] 25))
  have Pa4 := Lib.hid (Pr4.out.alloc (.cells #[.slice H4 dh hc4, .slice S4 ns sc4] 25))
  have La4 := Lib.hid (Lr4.out.below (low_lit w4 (.cells #[.slice H4 dh hc4, .slice S4 ns sc4] 25)))
  have Ba4 := Lib.hid (Br4.out.alloc Br4.out.size (.cells #[.slice H4 dh hc4, .slice S4 ns sc4] 25))
  have Da4 := Lib.hid (HG.new hv (rfl : w4.heap.size = w4.heap.size))
  clear hv hb C4 Xr4 Pr4 Lr4 Br4
  obtain ⟨X_0, X_1, -⟩ := Xa4.out
  obtain ⟨P_0, P_1, -⟩ := Pa4.out
  obtain ⟨D_0, D_1, -⟩ := Da4.out
  have C5 := Lib.hid (hA _ _ _ _ _ _ _ _ m q 0 Da4.out.2.2 OD.out MB.out HQQ.out)
  go_wp2_with fail
  refine C5.out.mono ?_
  rintro e w5 ⟨L5, lc5, rfl, hcap5, hv, hb⟩
  clear X_0 X_1 P_0 P_1 D_0 D_1
  have Xr5 := Lib.hid (Xa4.out.below hb)
  have Pr5 := Lib.hid (Pa4.out.below hb)
  have Dr5 := Lib.hid (Da4.out.below hb)
  have Lr5 := Lib.hid (La4.out.below hb)
  have Br5 := Lib.hid (Ba4.out.trans (hb.mono Ba4.out.size))
  clear Xa4 Pa4 Da4 La4 Ba4
  have Mr5 := Lib.hid hv
  clear hv hb C5 hcap5
  obtain ⟨X_0, X_1, -⟩ := Xr5.out
  obtain ⟨P_0, P_1, -⟩ := Pr5.out
  obtain ⟨D_0, D_1, -⟩ := Dr5.out
  obtain ⟨wq, hwq⟩ : ∃ wq, wq = w5 := ⟨_, rfl⟩
  obtain ⟨b1, o1, hS1, _, x1⟩ := int_at Xr5.out.2.2.saw SB.out
  obtain ⟨b2, o2, hS2, _, x2⟩ := int_at Pr5.out.2.2.saw SP.out
  have CL := Lib.hid (fun (V : World) (hb : Below w5.heap.size w5 V) => show Calls Try.prog 24 #[.slice L3 n lc3, .int .i64 elem] V (Gave (.bool true) V) from by
    refine (Jump.contains_c L3 l n lc3 elem V HNN.out (by omega) (Lr5.out.below hb) true IN.out).mono ?_
    rintro e w ⟨rfl, rfl⟩
    exact ⟨rfl, Below.refl _ _⟩)
  have CM := Lib.hid (fun (V : World) (hb : Below w5.heap.size w5 V) => show Calls Try.prog 24 #[.slice L5 q lc5, .int .i64 elem] V (Gave (.bool false) V) from by
    refine (Jump.contains_c L5 m q lc5 elem V HQQ.out (by omega) (Mr5.out.below hb) false NO.out).mono ?_
    rintro e w ⟨rfl, rfl⟩
    exact ⟨rfl, Below.refl _ _⟩)
  have CR := Lib.hid (fun (V : World) (hb : Below w5.heap.size w5 V) => hR H2 S2 ph hc2 ns sc2 p V true (Pr5.out.2.2.below hb) RP.out)
  have CE := Lib.hid (fun (V : World) (hb : Below w5.heap.size w5 V) => show Calls Try.prog 25 #[.slice S4 ns sc4, .slice S2 ns sc2] V (Gave (.bool true) V) from by
    have := equalZ_c S4 S2 d.2 p.2 ns ns sc4 sc2 V HDS.out HPS.out (by omega) (by omega) (Dr5.out.2.2.saw.below hb) (Pr5.out.2.2.saw.below hb)
    rwa [SD.out, decide_eq_true rfl] at this)
  have cP0 : ∀ d os, (grow (redrawn w5 d) os).cell? _ = _ := fun d os => cell_regrown Pr5.out.1 d os
  have cP1 : ∀ d os, (grow (redrawn w5 d) os).cell? _ = _ := fun d os => cell_regrown Pr5.out.2.1 d os
  have cX1 : ∀ d os, (grow (redrawn w5 d) os).cell? _ = _ := fun d os => cell_regrown Xr5.out.2.1 d os
  have cD1 : ∀ d os, (grow (redrawn w5 d) os).cell? _ = _ := fun d os => cell_regrown Dr5.out.2.1 d os
  have cx1 : ∀ d os, (grow (redrawn w5 d) os).cell? _ = _ := fun d os => cell_regrown x1 d os
  have cx2 : ∀ d os, (grow (redrawn w5 d) os).cell? _ = _ := fun d os => cell_regrown x2 d os
  have BN := Lib.hid (Br5.out)
  subst hS1 hS2
  clear hwq
  clear X_0 X_1 P_0 P_1 D_0 D_1
  go_upto_region 9 with fail
  refine wp_region_quiet_below (by kernel_rfl) (by kernel_rfl) ?_
  repeat (quiet_step (first
    | (go_at_call_of 24 (Value.slice L3 n lc3); refine Calls.regrown_of (CL.out _ (below_regrown _ _ _)))
    | (go_at_call_of 24 (Value.slice L5 q lc5); refine Calls.regrown_of (CM.out _ (below_regrown _ _ _)))
    | (go_at_call 14; refine Calls.regrown_of (CR.out _ (below_regrown _ _ _)))
    | (go_at_call 25; refine Calls.regrown_of (CE.out _ (below_regrown _ _ _)))))
  refine wpQuiet_nil ?_
  intro _ hw'
  obtain ⟨⟨dd, os⟩, hw''⟩ := hw'
  subst hw''
  have br := Lib.hid (below_regrown w5 dd os)
  clear cP0 cP1 cX1 cD1 cx1 cx2
  go_wp2
  go_ret
  exact ⟨rfl, BN.out.trans (br.out.mono BN.out.size)⟩
theorem put_w (hN : NewSpec) (hR : RightSpec) (hP : PutSpec) (hD : DropSpec) (hA : AllSpec) (hJ : JoinSpec) (H S : Option Addr) (nh ch ns cs : Nat) (b : Bg) (who elem : Int) (W : World) (h : HB W H S nh ch ns cs b) (hw : (Lit.int .i64 who).wf = true) (hf : (Lit.int .i64 elem).wf = true) :
    Calls Try.prog 8 #[.agg #[.slice H nh ch, .slice S ns cs], .int .i64 who, .int .i64 elem] W (Law.Yes W) := by
  by_cases he : putE b who = 0
  · exact put_yes hN hR hP hD hA hJ H S nh ch ns cs b who elem W h hw (fit_of hf) he
  · exact put_no hN hR hP hD hA hJ H S nh ch ns cs b who elem W h hw (fit_of hf) _ rfl he
end Go.Proofs.Ythebilmeehnkpaa.Ors
