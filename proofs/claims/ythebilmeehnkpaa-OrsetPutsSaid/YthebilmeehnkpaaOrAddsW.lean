/-
  OrsetAdds, walked over what the laws take of the program.
-/
import Derived.Test.YthebilmeehnkpaaOrAlive
import Derived.Test.YthebilmeehnkpaaLaw
namespace Go.Proofs.Ythebilmeehnkpaa.Ors
set_option linter.unusedVariables false
set_option linter.unusedSimpArgs false
open Go.RowKit Mem Gt
open Jump (Gave equalZ_c)

theorem putB_of {b : Bg} {who elem : Int} (h : putE b who = 0) : putB b who elem = (putH b who elem, bumpS b.2 who) := if_pos h
theorem putB_no {b : Bg} {who elem : Int} (h : putE b who ≠ 0) : putB b who elem = ([], []) := if_neg h
theorem dropR_of {b : Bg} {elem : Int} (h : OkB b) : dropR b elem = dropB b elem := if_pos (okB_iff.2 h)
theorem allR_of {b : Bg} (h : OkB b) : allR b = elems b := if_pos (okB_iff.2 h)
set_option maxRecDepth 100000 in
set_option maxHeartbeats 16000000 in
theorem adds_no (hN : NewSpec) (hP : PutSpec) (hD : DropSpec) (hA : AllSpec) (hJ : JoinSpec) (H S : Option Addr) (nh ch ns cs : Nat) (b : Bg) (who elem : Int) (W : World) (h : HB W H S nh ch ns cs b) (hw : (Lit.int .i64 who).wf = true) (hf : Fit elem) (e0 : Int) (he : putE b who = e0) (h0 : e0 ≠ 0) :
    Calls Try.prog 6 #[.agg #[.slice H nh ch, .slice S ns cs], .int .i64 who, .int .i64 elem] W (Law.Yes W) := by
  have B0 := Lib.hid (low_lit W (.cells #[.slice H nh ch, .slice S ns cs] 25))
  have X0 := Lib.hid (HG.new h rfl)
  have AL := Lib.hid (alive_c hN hP hD hA hJ (W.alloc (.cells #[.slice H nh ch, .slice S ns cs] 25)))
  obtain ⟨d, hd⟩ : ∃ d, dropR b elem = d := ⟨_, rfl⟩
  obtain ⟨e1, he1⟩ : ∃ e, okE b = e := ⟨_, rfl⟩
  obtain ⟨mh, hmh⟩ : ∃ n, d.1.length = n := ⟨_, rfl⟩
  obtain ⟨ms, hms⟩ : ∃ n, d.2.length = n := ⟨_, rfl⟩
  have PB := Lib.hid (show putB b who elem = ([], []) from putB_no (by rw [he]; exact h0))
  have HE := Lib.hid he
  have HD := Lib.hid hd
  have HE1 := Lib.hid he1
  have HMH := Lib.hid hmh
  have HMS := Lib.hid hms
  have HW := Lib.hid hw
  have HF := Lib.hid hf
  have q0 : (e0 != 0) = true := by simpa using h0
  clear h hw hf he h0 hd he1 hmh hms
  go_enter Try.func6, Try.ntmps6
  have C1 := Lib.hid (AL.out)
  go_wp2_with fail
  refine C1.out.mono ?_
  rintro e w1 ⟨rfl, hb⟩
  have Xr1 := Lib.hid (X0.out.below hb)
  have Br1 := Lib.hid (B0.out.trans (hb.mono B0.out.size))
  clear X0 B0
  clear hb C1
  obtain ⟨X_0, X_1, -⟩ := Xr1.out
  have C2 := Lib.hid (hP _ _ _ _ _ _ _ who elem _ ([], []) 0 0 e0 Xr1.out.2.2 HW.out HF.out HE.out PB.out rfl rfl)
  clear X_0 X_1
  obtain ⟨X_0, X_1, -⟩ := Xr1.out
  go_wp2_with fail
  refine C2.out.mono ?_
  rintro e w2 ⟨H2, S2, hc2, sc2, rfl, hv, hb⟩
  clear X_0 X_1
  have Xr2 := Lib.hid (Xr1.out.below hb)
  have Br2 := Lib.hid (Br1.out.trans (hb.mono Br1.out.size))
  clear Xr1 Br1
  have Xa2 := Lib.hid (Xr2.out.alloc (.cells #[.slice H2 0 hc2, .slice S2 0 sc2] 25))
  have Ba2 := Lib.hid (Br2.out.alloc Br2.out.size (.cells #[.slice H2 0 hc2, .slice S2 0 sc2] 25))
  have Pa2 := Lib.hid (HG.new hv (rfl : w2.heap.size = w2.heap.size))
  clear hv hb C2 Xr2 Br2
  obtain ⟨X_0, X_1, -⟩ := Xa2.out
  obtain ⟨P_0, P_1, -⟩ := Pa2.out
  have C3 := Lib.hid (hD _ _ _ _ _ _ _ elem _ d mh ms e1 Xa2.out.2.2 HF.out HE1.out HD.out HMH.out HMS.out)
  clear X_0 X_1 P_0 P_1
  obtain ⟨X_0, X_1, -⟩ := Xa2.out
  obtain ⟨P_0, P_1, -⟩ := Pa2.out
  go_wp2_with fail
  refine C3.out.mono ?_
  rintro e w3 ⟨H3, S3, hc3, sc3, rfl, hv, hb⟩
  clear X_0 X_1 P_0 P_1
  have Xr3 := Lib.hid (Xa2.out.below hb)
  have Pr3 := Lib.hid (Pa2.out.below hb)
  have Br3 := Lib.hid (Ba2.out.trans (hb.mono Ba2.out.size))
  clear Xa2 Pa2 Ba2
  have Xa3 := Lib.hid (Xr3.out.alloc (.cells #[.slice H3 mh hc3, .slice S3 ms sc3] 25))
  have Pa3 := Lib.hid (Pr3.out.alloc (.cells #[.slice H3 mh hc3, .slice S3 ms sc3] 25))
  have Ba3 := Lib.hid (Br3.out.alloc Br3.out.size (.cells #[.slice H3 mh hc3, .slice S3 ms sc3] 25))
  have Da3 := Lib.hid (HG.new hv (rfl : w3.heap.size = w3.heap.size))
  clear hv hb C3 Xr3 Pr3 Br3
  obtain ⟨X_0, X_1, -⟩ := Xa3.out
  obtain ⟨P_0, P_1, -⟩ := Pa3.out
  obtain ⟨D_0, D_1, -⟩ := Da3.out
  go_wp2
  go_ret
  exact ⟨rfl, Ba3.out⟩
set_option maxRecDepth 100000 in
set_option maxHeartbeats 16000000 in
theorem adds_yes (hN : NewSpec) (hP : PutSpec) (hD : DropSpec) (hA : AllSpec) (hJ : JoinSpec) (H S : Option Addr) (nh ch ns cs : Nat) (b : Bg) (who elem : Int) (W : World) (h : HB W H S nh ch ns cs b) (hw : (Lit.int .i64 who).wf = true) (hf : Fit elem) (he : putE b who = 0) :
    Calls Try.prog 6 #[.agg #[.slice H nh ch, .slice S ns cs], .int .i64 who, .int .i64 elem] W (Law.Yes W) := by
  have B0 := Lib.hid (low_lit W (.cells #[.slice H nh ch, .slice S ns cs] 25))
  have X0 := Lib.hid (HG.new h rfl)
  have AL := Lib.hid (alive_c hN hP hD hA hJ (W.alloc (.cells #[.slice H nh ch, .slice S ns cs] 25)))
  obtain ⟨k, rfl, hp⟩ := putE_zero he
  have ok := hp.ok
  obtain ⟨p, hpp⟩ : ∃ p, p = (putH b k elem, bumpS b.2 k) := ⟨_, rfl⟩
  obtain ⟨d, hdd⟩ : ∃ d, d = dropB b elem := ⟨_, rfl⟩
  obtain ⟨ph, hph⟩ : ∃ n, p.1.length = n := ⟨_, rfl⟩
  obtain ⟨ps, hps⟩ : ∃ n, p.2.length = n := ⟨_, rfl⟩
  obtain ⟨dh, hdh⟩ : ∃ n, d.1.length = n := ⟨_, rfl⟩
  obtain ⟨ds, hds⟩ : ∃ n, d.2.length = n := ⟨_, rfl⟩
  have j0 : joinE d p = 0 := by rw [hdd, hpp]; exact adds_ok hp elem
  obtain ⟨j, hj⟩ : ∃ j, j = (joinH d p, joinS d p) := ⟨_, rfl⟩
  obtain ⟨jh, hjh⟩ : ∃ n, j.1.length = n := ⟨_, rfl⟩
  obtain ⟨js, hjs⟩ : ∃ n, j.2.length = n := ⟨_, rfl⟩
  have okj : OkB j := by
    obtain ⟨a1, a2, a3, _, a5⟩ := joinE_zero.1 j0
    rw [hj]; exact join_ok a1 a2 a3 a5
  obtain ⟨l, hl⟩ : ∃ l, elems j = l := ⟨_, rfl⟩
  obtain ⟨n, hn⟩ : ∃ n, l.length = n := ⟨_, rfl⟩
  have PB := Lib.hid (show putB b k elem = p by rw [hpp]; exact putB_of he)
  have DB := Lib.hid (show dropR b elem = d by rw [hdd]; exact dropR_of ok)
  have JB := Lib.hid (show joinB d p = j by rw [hj]; exact joinB_of j0)
  have LB := Lib.hid (show allR j = l by rw [allR_of okj]; exact hl)
  have J0 := Lib.hid j0
  have OE := Lib.hid (okE_zero.2 ok)
  have OJ := Lib.hid (okE_zero.2 okj)
  have IN := Lib.hid (show elem ∈ l by rw [← hl, hj, hdd, hpp]; exact adds_in hp elem)
  have ONE := Lib.hid (show cnt j.1 elem = 1 by rw [hj, hdd, hpp]; exact adds_one hp elem)
  have HE := Lib.hid he
  have HPH := Lib.hid hph
  have HPS := Lib.hid hps
  have HDH := Lib.hid hdh
  have HDS := Lib.hid hds
  have HJH := Lib.hid hjh
  have HJS := Lib.hid hjs
  have HNN := Lib.hid hn
  have HW := Lib.hid hw
  have HF := Lib.hid hf
  have hj4 : jh ≤ 400 := by rw [← hjh]; exact okj.many
  have hn4 : n ≤ 400 := by rw [← hn, ← hl]; exact Nat.le_trans (elems_len j) okj.many
  clear h hw hf he hp ok hpp hdd hph hps hdh hds j0 hj hjh hjs okj hl hn
  go_enter Try.func6, Try.ntmps6
  have C1 := Lib.hid (AL.out)
  go_wp2_with fail
  refine C1.out.mono ?_
  rintro e w1 ⟨rfl, hb⟩
  have Xr1 := Lib.hid (X0.out.below hb)
  have Br1 := Lib.hid (B0.out.trans (hb.mono B0.out.size))
  clear X0 B0
  clear hb C1
  obtain ⟨X_0, X_1, -⟩ := Xr1.out
  have C2 := Lib.hid (hP _ _ _ _ _ _ _ k elem _ p ph ps 0 Xr1.out.2.2 HW.out HF.out HE.out PB.out HPH.out HPS.out)
  clear X_0 X_1
  obtain ⟨X_0, X_1, -⟩ := Xr1.out
  go_wp2_with fail
  refine C2.out.mono ?_
  rintro e w2 ⟨H2, S2, hc2, sc2, rfl, hv, hb⟩
  clear X_0 X_1
  have Xr2 := Lib.hid (Xr1.out.below hb)
  have Br2 := Lib.hid (Br1.out.trans (hb.mono Br1.out.size))
  clear Xr1 Br1
  have Xa2 := Lib.hid (Xr2.out.alloc (.cells #[.slice H2 ph hc2, .slice S2 ps sc2] 25))
  have Ba2 := Lib.hid (Br2.out.alloc Br2.out.size (.cells #[.slice H2 ph hc2, .slice S2 ps sc2] 25))
  have Pa2 := Lib.hid (HG.new hv (rfl : w2.heap.size = w2.heap.size))
  clear hv hb C2 Xr2 Br2
  obtain ⟨X_0, X_1, -⟩ := Xa2.out
  obtain ⟨P_0, P_1, -⟩ := Pa2.out
  have C3 := Lib.hid (hD _ _ _ _ _ _ _ elem _ d dh ds 0 Xa2.out.2.2 HF.out OE.out DB.out HDH.out HDS.out)
  clear X_0 X_1 P_0 P_1
  obtain ⟨X_0, X_1, -⟩ := Xa2.out
  obtain ⟨P_0, P_1, -⟩ := Pa2.out
  go_wp2_with fail
  refine C3.out.mono ?_
  rintro e w3 ⟨H3, S3, hc3, sc3, rfl, hv, hb⟩
  clear X_0 X_1 P_0 P_1
  have Xr3 := Lib.hid (Xa2.out.below hb)
  have Pr3 := Lib.hid (Pa2.out.below hb)
  have Br3 := Lib.hid (Ba2.out.trans (hb.mono Ba2.out.size))
  clear Xa2 Pa2 Ba2
  have Xa3 := Lib.hid (Xr3.out.alloc (.cells #[.slice H3 dh hc3, .slice S3 ds sc3] 25))
  have Pa3 := Lib.hid (Pr3.out.alloc (.cells #[.slice H3 dh hc3, .slice S3 ds sc3] 25))
  have Ba3 := Lib.hid (Br3.out.alloc Br3.out.size (.cells #[.slice H3 dh hc3, .slice S3 ds sc3] 25))
  have Da3 := Lib.hid (HG.new hv (rfl : w3.heap.size = w3.heap.size))
  clear hv hb C3 Xr3 Pr3 Br3
  obtain ⟨X_0, X_1, -⟩ := Xa3.out
  obtain ⟨P_0, P_1, -⟩ := Pa3.out
  obtain ⟨D_0, D_1, -⟩ := Da3.out
  have C4 := Lib.hid (hJ _ _ _ _ _ _ _ _ _ _ _ _ _ _ _ j jh js 0 Da3.out.2.2 Pa3.out.2.2 J0.out JB.out HJH.out HJS.out)
  clear X_0 X_1 P_0 P_1 D_0 D_1
  obtain ⟨X_0, X_1, -⟩ := Xa3.out
  obtain ⟨P_0, P_1, -⟩ := Pa3.out
  obtain ⟨D_0, D_1, -⟩ := Da3.out
  go_wp2_with fail
  refine C4.out.mono ?_
  rintro e w4 ⟨H4, S4, hc4, sc4, rfl, hv, hb⟩
  clear X_0 X_1 P_0 P_1 D_0 D_1
  have Xr4 := Lib.hid (Xa3.out.below hb)
  have Pr4 := Lib.hid (Pa3.out.below hb)
  have Dr4 := Lib.hid (Da3.out.below hb)
  have Br4 := Lib.hid (Ba3.out.trans (hb.mono Ba3.out.size))
  clear Xa3 Pa3 Da3 Ba3
  have Xa4 := Lib.hid (Xr4.out.alloc (.cells #[.slice H4 jh hc4, .slice S4 js sc4] 25))
  have Pa4 := Lib.hid (Pr4.out.alloc (.cells #[.slice H4 jh hc4, .slice S4 js sc4] 25))
  have Da4 := Lib.hid (Dr4.out.alloc (.cells #[.slice H4 jh hc4, .slice S4 js sc4] 25))
  have Ba4 := Lib.hid (Br4.out.alloc Br4.out.size (.cells #[.slice H4 jh hc4, .slice S4 js sc4] 25))
  have Ja4 := Lib.hid (HG.new hv (rfl : w4.heap.size = w4.heap.size))
  clear hv hb C4 Xr4 Pr4 Dr4 Br4
  obtain ⟨X_0, X_1, -⟩ := Xa4.out
  obtain ⟨P_0, P_1, -⟩ := Pa4.out
  obtain ⟨D_0, D_1, -⟩ := Da4.out
  obtain ⟨J_0, J_1, -⟩ := Ja4.out
  have C5 := Lib.hid (hA _ _ _ _ _ _ _ _ l n 0 Ja4.out.2.2 OJ.out LB.out HNN.out)
  go_wp2_with fail
  refine C5.out.mono ?_
  rintro e w5 ⟨L5, lc5, rfl, hcap5, hv, hb⟩
  clear X_0 X_1 P_0 P_1 D_0 D_1 J_0 J_1
  have Xr5 := Lib.hid (Xa4.out.below hb)
  have Pr5 := Lib.hid (Pa4.out.below hb)
  have Dr5 := Lib.hid (Da4.out.below hb)
  have Jr5 := Lib.hid (Ja4.out.below hb)
  have Br5 := Lib.hid (Ba4.out.trans (hb.mono Ba4.out.size))
  clear Xa4 Pa4 Da4 Ja4 Ba4
  have Lr5 := Lib.hid hv
  clear hv hb C5 hcap5
  obtain ⟨X_0, X_1, -⟩ := Xr5.out
  obtain ⟨P_0, P_1, -⟩ := Pr5.out
  obtain ⟨D_0, D_1, -⟩ := Dr5.out
  obtain ⟨J_0, J_1, -⟩ := Jr5.out
  obtain ⟨wl, hwl⟩ : ∃ wl, wl = w5 := ⟨_, rfl⟩
  go_wp2_with fail
  clear X_0 X_1 P_0 P_1 D_0 D_1 J_0 J_1
  go_loopw [15, 53] (fun v i wr => ∃ q : Nat, q ≤ jh ∧ i = .int .i64 q ∧ v = .int .i64 (cnt (j.1.take q) elem : Nat) ∧ Below w5.heap.size w5 wr) (fun _ i _ => jh - (Go.RowKit.intOf i).toNat)
  case atStart => exact ⟨0, by omega, rfl, by simp [cnt], Below.refl _ _⟩
  case round =>
    obtain ⟨q, hq, rfl, rfl, hB⟩ := hrel
    have BB := Lib.hid hB
    have JJ := Jr5.out.below hB
    by_cases hlt : q < jh
    · obtain ⟨⟨t0, t1, t2⟩, ht⟩ : ∃ x, j.1[q]? = some x := ⟨_, List.getElem?_eq_getElem (by rw [HJH.out]; exact hlt)⟩
      obtain ⟨b1, o1, hH1, _, x0, x1, x2⟩ := tg_at JJ.2.2.has ht
      obtain ⟨d0, d1, d2⟩ := box_tg (w := wr) (t0, t1, t2)
      have BA := Lib.hid (hB.trans ((low_lit wr (.cells #[.int .i64 t0, .int .i64 t1, .int .i64 t2] 37)).mono hB.size))
      have ST := Lib.hid (show cnt (j.1.take (q + 1)) elem = cnt (j.1.take q) elem + (if t2 = elem then 1 else 0) by rw [List.take_add_one, ht]; exact cnt_snoc _ _ _)
      have CL := Lib.hid (show cnt (j.1.take q) elem ≤ 400 by
        have h1 : cnt (j.1.take q) elem ≤ (j.1.take q).length := List.length_filter_le _ _
        rw [List.length_take] at h1
        omega)
      have i1 : (q : Int) < (jh : Int) := by omega
      obtain ⟨c, hc⟩ : ∃ c, cnt (j.1.take q) elem = c := ⟨_, rfl⟩
      rw [hc] at ST CL
      rw [hc]
      have cl := CL.out
      have wc1 : IntKind.i64.wrap ((c : Int) + 1) = (c : Int) + 1 := IntWalk.i64_in _ (by omega)
      simp only at x0 x1 x2 d0 d1 d2
      subst hH1
      clear ht hB JJ hc
      by_cases e2 : t2 = elem
      · subst e2
        have e1 : (t2 == t2) = true := by simp
        have E := Lib.hid (show cnt (j.1.take (q + 1)) t2 = c + 1 by rw [ST.out, if_pos rfl])
        go_wp2
        go_roundw
        case rel => exact ⟨q + 1, by omega, by go_num, by rw [E.out]; go_num, BA.out⟩
        case measure => simp [Go.RowKit.intOf]; omega
      · have e1 : (t2 == elem) = false := by simpa using e2
        have E := Lib.hid (show cnt (j.1.take (q + 1)) elem = c by rw [ST.out, if_neg e2]; rfl)
        go_wp2
        go_roundw
        case rel => exact ⟨q + 1, by omega, by go_num, by rw [E.out], BA.out⟩
        case measure => simp [Go.RowKit.intOf]; omega
    · obtain rfl : q = jh := by omega
      have E1 := Lib.hid (show cnt (j.1.take q) elem = 1 by rw [List.take_of_length_le (Nat.le_of_eq HJH.out)]; exact ONE.out)
      have BZ := Lib.hid (Br5.out.trans (hB.mono Br5.out.size))
      have CT := Lib.hid (show Calls Try.prog 24 #[.slice L5 n lc5, .int .i64 elem] wr (Gave (.bool true) wr) from by
        refine (Jump.contains_c L5 l n lc5 elem wr HNN.out (by omega) (Lr5.out.below hB) true (decide_eq_true IN.out)).mono ?_
        rintro e w ⟨rfl, rfl⟩
        exact ⟨rfl, Below.refl _ _⟩)
      rw [E1.out]
      clear hB JJ
      go_wp2_with fail
      refine CT.out.mono ?_
      rintro e w9 ⟨rfl, hb⟩
      have B9 := Lib.hid (BZ.out.trans (hb.mono BZ.out.size))
      clear hb
      go_wp2
      go_ret
      exact ⟨rfl, B9.out⟩
theorem adds_w (hN : NewSpec) (hP : PutSpec) (hD : DropSpec) (hA : AllSpec) (hJ : JoinSpec) (H S : Option Addr) (nh ch ns cs : Nat) (b : Bg) (who elem : Int) (W : World) (h : HB W H S nh ch ns cs b) (hw : (Lit.int .i64 who).wf = true) (hf : (Lit.int .i64 elem).wf = true) :
    Calls Try.prog 6 #[.agg #[.slice H nh ch, .slice S ns cs], .int .i64 who, .int .i64 elem] W (Law.Yes W) := by
  by_cases he : putE b who = 0
  · exact adds_yes hN hP hD hA hJ H S nh ch ns cs b who elem W h hw (fit_of hf) he
  · exact adds_no hN hP hD hA hJ H S nh ch ns cs b who elem W h hw (fit_of hf) _ rfl he
end Go.Proofs.Ythebilmeehnkpaa.Ors
