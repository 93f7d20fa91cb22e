/-
  OrsetDrops, walked over what the laws take of the program.
-/
import Derived.Test.YthebilmeehnkpaaOrAddsW
import Derived.Test.YthebilmeehnkpaaOrDel
namespace Go.Proofs.Ythebilmeehnkpaa.Ors
set_option linter.unusedVariables false
set_option linter.unusedSimpArgs false
open Go.RowKit Mem Gt
open Jump (Gave equalZ_c)

set_option maxRecDepth 100000 in
set_option maxHeartbeats 16000000 in
theorem drops_no (hN : NewSpec) (hP : PutSpec) (hD : DropSpec) (hA : AllSpec) (hJ : JoinSpec) (H S : Option Addr) (nh ch ns cs : Nat) (b : Bg) (elem : Int) (W : World) (h : HB W H S nh ch ns cs b) (hf : Fit elem) (h0 : okB b = false) :
    Calls Try.prog 7 #[.agg #[.slice H nh ch, .slice S ns cs], .int .i64 elem] W (Law.Yes W) := by
  obtain ⟨V0, hV0⟩ : ∃ V0, (W.alloc (.cells #[.slice H nh ch, .slice S ns cs] 25)).alloc (.cells #[.int .i64 elem] 3) = V0 := ⟨_, rfl⟩
  have B0 := Lib.hid (show Below W.heap.size W V0 from hV0 ▸ (low_lit W (.cells #[.slice H nh ch, .slice S ns cs] 25)).alloc (by simp) _)
  have X0 := Lib.hid (show HG V0 W.heap.size H S nh ch ns cs b from hV0 ▸ (HG.new h rfl).alloc (.cells #[.int .i64 elem] 3))
  have e0 : V0.cell? ⟨W.heap.size + 1, 0, none⟩ = some (.int .i64 elem) := by
    have := (Known.made (W.alloc (.cells #[.slice H nh ch, .slice S ns cs] 25)) 3 #[.int .i64 elem]).cell 0
    rw [hV0, show (W.alloc (.cells #[.slice H nh ch, .slice S ns cs] 25)).heap.size = W.heap.size + 1 by simp] at this
    exact this
  have EL0 := Lib.hid e0
  have SZ := Lib.hid (show V0.heap.size = W.heap.size + 2 by rw [← hV0]; simp)
  have AL := Lib.hid (alive_c hN hP hD hA hJ V0)
  obtain ⟨j, hj⟩ : ∃ j, joinB ([], []) b = j := ⟨_, rfl⟩
  obtain ⟨e1, he1⟩ : ∃ e, joinE ([], []) b = e := ⟨_, rfl⟩
  obtain ⟨mh, hmh⟩ : ∃ n, j.1.length = n := ⟨_, rfl⟩
  obtain ⟨ms, hms⟩ : ∃ n, j.2.length = n := ⟨_, rfl⟩
  have OE := Lib.hid (show okE b = 1 by unfold okE; rw [h0]; rfl)
  have DB := Lib.hid (show dropR b elem = ([], []) by unfold dropR; rw [h0]; rfl)
  have HJ := Lib.hid hj
  have HE1 := Lib.hid he1
  have HMH := Lib.hid hmh
  have HMS := Lib.hid hms
  have HF := Lib.hid hf
  clear h hf h0 hj he1 hmh hms e0
  go_enter Try.func7, Try.ntmps7
  obtain ⟨X_0, X_1, -⟩ := X0.out
  have el := EL0.out
  have C1 := Lib.hid (AL.out)
  go_wp2_with fail
  refine C1.out.mono ?_
  rintro e w1 ⟨rfl, hb⟩
  clear X_0 X_1 el
  have ELr1 := Lib.hid ((hb.cell (p := ⟨W.heap.size + 1, 0, none⟩) (World.block_lt_of_cell? _ _ EL0.out)).trans EL0.out)
  clear EL0
  have Xr1 := Lib.hid (X0.out.below hb)
  have Br1 := Lib.hid (B0.out.trans (hb.mono B0.out.size))
  clear X0 B0
  clear hb C1
  obtain ⟨X_0, X_1, -⟩ := Xr1.out
  have el := ELr1.out
  have C2 := Lib.hid (hD _ _ _ _ _ _ _ elem _ ([], []) 0 0 1 Xr1.out.2.2 HF.out OE.out DB.out rfl rfl)
  clear X_0 X_1 el
  obtain ⟨X_0, X_1, -⟩ := Xr1.out
  have el := ELr1.out
  go_wp2_with fail
  refine C2.out.mono ?_
  rintro e w2 ⟨H2, S2, hc2, sc2, rfl, hv, hb⟩
  clear X_0 X_1 el
  have ELr2 := Lib.hid ((hb.cell (p := ⟨W.heap.size + 1, 0, none⟩) (World.block_lt_of_cell? _ _ ELr1.out)).trans ELr1.out)
  clear ELr1
  have Xr2 := Lib.hid (Xr1.out.below hb)
  have Br2 := Lib.hid (Br1.out.trans (hb.mono Br1.out.size))
  clear Xr1 Br1
  have Xa2 := Lib.hid (Xr2.out.alloc (.cells #[.slice H2 0 hc2, .slice S2 0 sc2] 25))
  have Ba2 := Lib.hid (Br2.out.alloc Br2.out.size (.cells #[.slice H2 0 hc2, .slice S2 0 sc2] 25))
  have Da2 := Lib.hid (HG.new hv (rfl : w2.heap.size = w2.heap.size))
  clear hv hb C2 Xr2 Br2
  obtain ⟨X_0, X_1, -⟩ := Xa2.out
  obtain ⟨D_0, D_1, -⟩ := Da2.out
  have ELa2 := Lib.hid (((low_lit w2 (.cells #[.slice H2 0 hc2, .slice S2 0 sc2] 25)).cell (p := ⟨W.heap.size + 1, 0, none⟩) (World.block_lt_of_cell? _ _ ELr2.out)).trans ELr2.out)
  clear ELr2
  have el := ELa2.out
  have C3 := Lib.hid (hJ _ _ _ _ _ _ _ _ _ _ _ _ _ _ _ j mh ms e1 Da2.out.2.2 Xa2.out.2.2 HE1.out HJ.out HMH.out HMS.out)
  clear X_0 X_1 D_0 D_1 el
  obtain ⟨X_0, X_1, -⟩ := Xa2.out
  obtain ⟨D_0, D_1, -⟩ := Da2.out
  have el := ELa2.out
  go_wp2_with fail
  refine C3.out.mono ?_
  rintro e w3 ⟨H3, S3, hc3, sc3, rfl, hv, hb⟩
  clear X_0 X_1 D_0 D_1 el
  have ELr3 := Lib.hid ((hb.cell (p := ⟨W.heap.size + 1, 0, none⟩) (World.block_lt_of_cell? _ _ ELa2.out)).trans ELa2.out)
  clear ELa2
  have Xr3 := Lib.hid (Xa2.out.below hb)
  have Dr3 := Lib.hid (Da2.out.below hb)
  have Br3 := Lib.hid (Ba2.out.trans (hb.mono Ba2.out.size))
  clear Xa2 Da2 Ba2
  have Xa3 := Lib.hid (Xr3.out.alloc (.cells #[.slice H3 mh hc3, .slice S3 ms sc3] 25))
  have Da3 := Lib.hid (Dr3.out.alloc (.cells #[.slice H3 mh hc3, .slice S3 ms sc3] 25))
  have Ba3 := Lib.hid (Br3.out.alloc Br3.out.size (.cells #[.slice H3 mh hc3, .slice S3 ms sc3] 25))
  have Ja3 := Lib.hid (HG.new hv (rfl : w3.heap.size = w3.heap.size))
  clear hv hb C3 Xr3 Dr3 Br3
  obtain ⟨X_0, X_1, -⟩ := Xa3.out
  obtain ⟨D_0, D_1, -⟩ := Da3.out
  obtain ⟨J_0, J_1, -⟩ := Ja3.out
  have ELa3 := Lib.hid (((low_lit w3 (.cells #[.slice H3 mh hc3, .slice S3 ms sc3] 25)).cell (p := ⟨W.heap.size + 1, 0, none⟩) (World.block_lt_of_cell? _ _ ELr3.out)).trans ELr3.out)
  clear ELr3
  have el := ELa3.out
  go_wp2
  go_ret
  exact ⟨rfl, Ba3.out⟩
set_option maxRecDepth 100000 in
set_option maxHeartbeats 16000000 in
theorem drops_yes (hN : NewSpec) (hP : PutSpec) (hD : DropSpec) (hA : AllSpec) (hJ : JoinSpec) (H S : Option Addr) (nh ch ns cs : Nat) (b : Bg) (elem : Int) (W : World) (h : HB W H S nh ch ns cs b) (hf : Fit elem) (ok : OkB b) :
    Calls Try.prog 7 #[.agg #[.slice H nh ch, .slice S ns cs], .int .i64 elem] W (Law.Yes W) := by
  obtain ⟨V0, hV0⟩ : ∃ V0, (W.alloc (.cells #[.slice H nh ch, .slice S ns cs] 25)).alloc (.cells #[.int .i64 elem] 3) = V0 := ⟨_, rfl⟩
  have B0 := Lib.hid (show Below W.heap.size W V0 from hV0 ▸ (low_lit W (.cells #[.slice H nh ch, .slice S ns cs] 25)).alloc (by simp) _)
  have X0 := Lib.hid (show HG V0 W.heap.size H S nh ch ns cs b from hV0 ▸ (HG.new h rfl).alloc (.cells #[.int .i64 elem] 3))
  have e0 : V0.cell? ⟨W.heap.size + 1, 0, none⟩ = some (.int .i64 elem) := by
    have := (Known.made (W.alloc (.cells #[.slice H nh ch, .slice S ns cs] 25)) 3 #[.int .i64 elem]).cell 0
    rw [hV0, show (W.alloc (.cells #[.slice H nh ch, .slice S ns cs] 25)).heap.size = W.heap.size + 1 by simp] at this
    exact this
  have EL0 := Lib.hid e0
  have SZ := Lib.hid (show V0.heap.size = W.heap.size + 2 by rw [← hV0]; simp)
  have AL := Lib.hid (alive_c hN hP hD hA hJ V0)
  obtain ⟨d, hdd⟩ : ∃ d, d = dropB b elem := ⟨_, rfl⟩
  have okd : OkB d := by rw [hdd]; exact drop_ok ok elem
  obtain ⟨dh, hdh⟩ : ∃ n, d.1.length = n := ⟨_, rfl⟩
  have hds : d.2.length = ns := by rw [hdd]; exact h.lenS
  obtain ⟨l, hl⟩ : ∃ l, elems d = l := ⟨_, rfl⟩
  obtain ⟨n, hn⟩ : ∃ n, l.length = n := ⟨_, rfl⟩
  obtain ⟨m, hm⟩ : ∃ m, elems b = m := ⟨_, rfl⟩
  obtain ⟨q, hq⟩ : ∃ q, m.length = q := ⟨_, rfl⟩
  have hlm : m.filter (fun x => x != elem) = l := by
    rw [← hm, ← hl, hdd, drops_all]
    refine List.filter_congr (fun x _ => ?_)
    by_cases e : x = elem <;> simp [e]
  have DB := Lib.hid (show dropR b elem = d by rw [hdd]; exact dropR_of ok)
  have J0 := Lib.hid (show joinE d b = 0 by rw [hdd]; exact drops_ok ok elem)
  have JB := Lib.hid (show joinB d b = d by rw [joinB_of J0.out, hdd, drops_h ok, drops_s]; rfl)
  have LB := Lib.hid (show allR d = l by rw [allR_of okd]; exact hl)
  have MB := Lib.hid (show allR b = m by rw [allR_of ok]; exact hm)
  have OB := Lib.hid (okE_zero.2 ok)
  have OD := Lib.hid (okE_zero.2 okd)
  have HLM := Lib.hid hlm
  have HDH := Lib.hid hdh
  have HDS := Lib.hid hds
  have HNN := Lib.hid hn
  have HQQ := Lib.hid hq
  have HF := Lib.hid hf
  have hn4 : n ≤ 400 := by rw [← hn, ← hl]; exact Nat.le_trans (elems_len d) okd.many
  have hq4 : q ≤ 400 := by rw [← hq, ← hm]; exact Nat.le_trans (elems_len b) ok.many
  clear h hf ok okd hdd hdh hds hl hn hm hq hlm e0
  go_enter Try.func7, Try.ntmps7
  obtain ⟨X_0, X_1, -⟩ := X0.out
  have el := EL0.out
  have C1 := Lib.hid (AL.out)
  go_wp2_with fail
  refine C1.out.mono ?_
  rintro e w1 ⟨rfl, hb⟩
  clear X_0 X_1 el
  have ELr1 := Lib.hid ((hb.cell (p := ⟨W.heap.size + 1, 0, none⟩) (World.block_lt_of_cell? _ _ EL0.out)).trans EL0.out)
  clear EL0
  have Xr1 := Lib.hid (X0.out.below hb)
  have Br1 := Lib.hid (B0.out.trans (hb.mono B0.out.size))
  clear X0 B0
  clear hb C1
  obtain ⟨X_0, X_1, -⟩ := Xr1.out
  have el := ELr1.out
  have C2 := Lib.hid (hD _ _ _ _ _ _ _ elem _ d dh ns 0 Xr1.out.2.2 HF.out OB.out DB.out HDH.out HDS.out)
  clear X_0 X_1 el
  obtain ⟨X_0, X_1, -⟩ := Xr1.out
  have el := ELr1.out
  go_wp2_with fail
  refine C2.out.mono ?_
  rintro e w2 ⟨H2, S2, hc2, sc2, rfl, hv, hb⟩
  clear X_0 X_1 el
  have ELr2 := Lib.hid ((hb.cell (p := ⟨W.heap.size + 1, 0, none⟩) (World.block_lt_of_cell? _ _ ELr1.out)).trans ELr1.out)
  clear ELr1
  have Xr2 := Lib.hid (Xr1.out.below hb)
  have Br2 := Lib.hid (Br1.out.trans (hb.mono Br1.out.size))
  clear Xr1 Br1
  have Xa2 := Lib.hid (Xr2.out.alloc (.cells #[.slice H2 dh hc2, .slice S2 ns sc2] 25))
  have Ba2 := Lib.hid (Br2.out.alloc Br2.out.size (.cells #[.slice H2 dh hc2, .slice S2 ns sc2] 25))
  have Da2 := Lib.hid (HG.new hv (rfl : w2.heap.size = w2.heap.size))
  clear hv hb C2 Xr2 Br2
  obtain ⟨X_0, X_1, -⟩ := Xa2.out
  obtain ⟨D_0, D_1, -⟩ := Da2.out
  have ELa2 := Lib.hid (((low_lit w2 (.cells #[.slice H2 dh hc2, .slice S2 ns sc2] 25)).cell (p := ⟨W.heap.size + 1, 0, none⟩) (World.block_lt_of_cell? _ _ ELr2.out)).trans ELr2.out)
  clear ELr2
  have el := ELa2.out
  have C3 := Lib.hid (hJ _ _ _ _ _ _ _ _ _ _ _ _ _ _ _ d dh ns 0 Da2.out.2.2 Xa2.out.2.2 J0.out JB.out HDH.out HDS.out)
  clear X_0 X_1 D_0 D_1 el
  obtain ⟨X_0, X_1, -⟩ := Xa2.out
  obtain ⟨D_0, D_1, -⟩ := Da2.out
  have el := ELa2.out
  go_wp2_with fail
  refine C3.out.mono ?_
  rintro e w3 ⟨H3, S3, hc3, sc3, rfl, hv, hb⟩
  clear X_0 X_1 D_0 D_1 el
  have ELr3 := Lib.hid ((hb.cell (p := ⟨W.heap.size + 1, 0, none⟩) (World.block_lt_of_cell? _ _ ELa2.out)).trans ELa2.out)
  clear ELa2
  have Xr3 := Lib.hid (Xa2.out.below hb)
  have Dr3 := Lib.hid (Da2.out.below hb)
  have Br3 := Lib.hid (Ba2.out.trans (hb.mono Ba2.out.size))
  clear Xa2 Da2 Ba2
  have Xa3 := Lib.hid (Xr3.out.alloc (.cells #[.slice H3 dh hc3, .slice S3 ns sc3] 25))
  have Da3 := Lib.hid (Dr3.out.alloc (.cells #[.slice H3 dh hc3, .slice S3 ns sc3] 25))
  have Ba3 := Lib.hid (Br3.out.alloc Br3.out.size (.cells #[.slice H3 dh hc3, .slice S3 ns sc3] 25))
  have Ja3 := Lib.hid (HG.new hv (rfl : w3.heap.size = w3.heap.size))
  clear hv hb C3 Xr3 Dr3 Br3
  obtain ⟨X_0, X_1, -⟩ := Xa3.out
  obtain ⟨D_0, D_1, -⟩ := Da3.out
  obtain ⟨J_0, J_1, -⟩ := Ja3.out
  have ELa3 := Lib.hid (((low_lit w3 (.cells #[.slice H3 dh hc3, .slice S3 ns sc3] 25)).cell (p := ⟨W.heap.size + 1, 0, none⟩) (World.block_lt_of_cell? _ _ ELr3.out)).trans ELr3.out)
  clear ELr3
  have el := ELa3.out
  have C4 := Lib.hid (hA _ _ _ _ _ _ _ _ l n 0 Da3.out.2.2 OD.out LB.out HNN.out)
  go_wp2_with fail
  refine C4.out.mono ?_
  rintro e w4 ⟨L4, lc4, rfl, hcap4, hv, hb⟩
  clear X_0 X_1 D_0 D_1 J_0 J_1 el
  have ELr4 := Lib.hid ((hb.cell (p := ⟨W.heap.size + 1, 0, none⟩) (World.block_lt_of_cell? _ _ ELa3.out)).trans ELa3.out)
  clear ELa3
  have Xr4 := Lib.hid (Xa3.out.below hb)
  have Dr4 := Lib.hid (Da3.out.below hb)
  have Jr4 := Lib.hid (Ja3.out.below hb)
  have Br4 := Lib.hid (Ba3.out.trans (hb.mono Ba3.out.size))
  clear Xa3 Da3 Ja3 Ba3
  have Lr4 := Lib.hid hv
  clear hv hb C4 hcap4
  obtain ⟨X_0, X_1, -⟩ := Xr4.out
  obtain ⟨D_0, D_1, -⟩ := Dr4.out
  obtain ⟨J_0, J_1, -⟩ := Jr4.out
  have el := ELr4.out
  have C5 := Lib.hid (hA _ _ _ _ _ _ _ _ m q 0 Xr4.out.2.2 OB.out MB.out HQQ.out)
  go_wp2_with fail
  refine C5.out.mono ?_
  rintro e w5 ⟨L5, lc5, rfl, hcap5, hv, hb⟩
  clear X_0 X_1 D_0 D_1 J_0 J_1 el
  have ELr5 := Lib.hid ((hb.cell (p := ⟨W.heap.size + 1, 0, none⟩) (World.block_lt_of_cell? _ _ ELr4.out)).trans ELr4.out)
  clear ELr4
  have Xr5 := Lib.hid (Xr4.out.below hb)
  have Dr5 := Lib.hid (Dr4.out.below hb)
  have Jr5 := Lib.hid (Jr4.out.below hb)
  have Lr5 := Lib.hid (Lr4.out.below hb)
  have Br5 := Lib.hid (Br4.out.trans (hb.mono Br4.out.size))
  clear Xr4 Dr4 Jr4 Lr4 Br4
  have Mr5 := Lib.hid hv
  clear hv hb C5 hcap5
  obtain ⟨X_0, X_1, -⟩ := Xr5.out
  obtain ⟨D_0, D_1, -⟩ := Dr5.out
  obtain ⟨J_0, J_1, -⟩ := Jr5.out
  have el := ELr5.out
  have SB := Lib.hid (samebag_c _ _ _ _ _ _ _ _ _ _ _ _ _ _ _ Jr5.out.2.2 Dr5.out.2.2 true (decide_eq_true rfl))
  have CL := Lib.hid (fun V (hb : Below w5.heap.size w5 V) => clone_z L5 m q lc5 V HQQ.out (by omega) (Mr5.out.below hb))
  have ELZ := Lib.hid ELr5.out
  have BZ := Lib.hid Br5.out
  have LZ := Lib.hid Lr5.out
  clear HF
  go_wp2_with fail
  refine SB.out.mono ?_
  rintro e w20 ⟨rfl, hb⟩
  have CL2 := Lib.hid (CL.out w20 hb)
  have LZ2 := Lib.hid (LZ.out.below hb)
  have BZ2 := Lib.hid (BZ.out.trans (hb.mono BZ.out.size))
  have ELZ2 := Lib.hid ((hb.cell (p := ⟨W.heap.size + 1, 0, none⟩) (World.block_lt_of_cell? _ _ ELZ.out)).trans ELZ.out)
  clear hb CL
  clear X_0 X_1 D_0 D_1 J_0 J_1 el
  go_wp2_with fail
  refine CL2.out.mono ?_
  rintro e w21 ⟨A21, c21, rfl, hz, hb⟩
  have el3 := (hb.cell (p := ⟨W.heap.size + 1, 0, none⟩) (World.block_lt_of_cell? _ _ ELZ2.out)).trans ELZ2.out
  have DL := Lib.hid (delete_z w20.heap.size A21 m q c21 (W.heap.size + 1) elem w21 HQQ.out hq4 hz (World.block_lt_of_cell? _ _ ELZ2.out) el3)
  rw [HLM.out, HNN.out] at DL
  have LZ3 := Lib.hid (LZ2.out.below hb)
  have B3 := Lib.hid (BZ2.out.trans (hb.mono BZ2.out.size))
  have S3 := Lib.hid (show w20.heap.size ≤ w21.heap.size from hb.size)
  have LZ4 := Lib.hid (show ∀ V, Below w20.heap.size w21 V → Reads V L4 (ints l) from fun V hV => by
    intro k v hv
    obtain ⟨b1, o1, h1, h2, h3⟩ := LZ2.out k v hv
    obtain ⟨b2, o2, k1, k2, k3⟩ := LZ3.out k v hv
    rw [h1] at k1; injection k1 with k1; injection k1 with k1 k4; subst k1 k4
    exact ⟨b1, o1, h1, Nat.lt_of_lt_of_le k2 hV.size, (hV.cell (p := ⟨b1, o1 + k, none⟩) h2).trans k3⟩)
  clear hz hb el3
  go_wp2_with fail
  refine DL.out.mono ?_
  rintro e w22 ⟨rfl, hr, hb⟩
  have EQ := Lib.hid (show Calls Try.prog 25 #[.slice L4 n lc4, .slice A21 n c21] w22 (Gave (.bool true) w22) from by
    have := equalZ_c L4 A21 l l n n lc4 c21 w22 HNN.out HNN.out (by omega) (by omega) (LZ4.out _ hb) hr
    rwa [decide_eq_true rfl] at this)
  have B4 := Lib.hid (B3.out.trans (hb.mono BZ2.out.size))
  clear hr hb
  go_wp2_with fail
  refine EQ.out.mono ?_
  rintro e w23 ⟨rfl, hb⟩
  have B5 := Lib.hid (B4.out.trans (hb.mono B4.out.size))
  clear hb
  go_wp2
  go_ret
  exact ⟨rfl, B5.out⟩
theorem drops_w (hN : NewSpec) (hP : PutSpec) (hD : DropSpec) (hA : AllSpec) (hJ : JoinSpec) (H S : Option Addr) (nh ch ns cs : Nat) (b : Bg) (elem : Int) (W : World) (h : HB W H S nh ch ns cs b) (hf : (Lit.int .i64 elem).wf = true) :
    Calls Try.prog 7 #[.agg #[.slice H nh ch, .slice S ns cs], .int .i64 elem] W (Law.Yes W) := by
  cases h0 : okB b with
  | false => exact drops_no hN hP hD hA hJ H S nh ch ns cs b elem W h (fit_of hf) h0
  | true => exact drops_yes hN hP hD hA hJ H S nh ch ns cs b elem W h (fit_of hf) (okB_iff.1 h0)
end Go.Proofs.Ythebilmeehnkpaa.Ors
