/-
  OrsetLattice, walked over what the laws take of the program.
-/
import Derived.Test.YthebilmeehnkpaaOrLatP
namespace Go.Proofs.Ythebilmeehnkpaa.Ors
set_option linter.unusedVariables false
set_option linter.unusedSimpArgs false
open Go.RowKit Mem Gt
open Jump (Gave equalZ_c)

theorem bags3 (V : World) (H S H2 S2 H3 S3 : Option Addr) (nh ch ns cs nh2 ch2 ns2 cs2 nh3 ch3 ns3 cs3 : Nat) (a b c : Bg) (h1 : HB V H S nh ch ns cs a) (h2 : HB V H2 S2 nh2 ch2 ns2 cs2 b) (h3 : HB V H3 S3 nh3 ch3 ns3 cs3 c) :
    BL (V.alloc (.cells #[.slice H nh ch, .slice S ns cs, .slice H2 nh2 ch2, .slice S2 ns2 cs2, .slice H3 nh3 ch3, .slice S3 ns3 cs3] 25)) V.heap.size [a, b, c] := fun k x hk => by
  have kn := Known.made V 25 #[.slice H nh ch, .slice S ns cs, .slice H2 nh2 ch2, .slice S2 ns2 cs2, .slice H3 nh3 ch3, .slice S3 ns3 cs3]
  have lw := low_lit V (.cells #[.slice H nh ch, .slice S ns cs, .slice H2 nh2 ch2, .slice S2 ns2 cs2, .slice H3 nh3 ch3, .slice S3 ns3 cs3] 25)
  match k, hk with
  | 0, hk => simp at hk; subst hk; exact ⟨H, S, nh, ch, ns, cs, kn.cell 0, kn.cell 1, h1.below lw⟩
  | 1, hk => simp at hk; subst hk; exact ⟨H2, S2, nh2, ch2, ns2, cs2, kn.cell 2, kn.cell 3, h2.below lw⟩
  | 2, hk => simp at hk; subst hk; exact ⟨H3, S3, nh3, ch3, ns3, cs3, kn.cell 4, kn.cell 5, h3.below lw⟩
  | k + 3, hk => simp at hk
set_option maxRecDepth 100000 in
set_option maxHeartbeats 16000000 in
theorem lat_no (hN : NewSpec) (hR : RightSpec) (hP : PutSpec) (hD : DropSpec) (hA : AllSpec) (hJ : JoinSpec) (H S H2 S2 H3 S3 : Option Addr) (nh ch ns cs nh2 ch2 ns2 cs2 nh3 ch3 ns3 cs3 : Nat) (a b c : Bg) (W : World) (h1 : HB W H S nh ch ns cs a) (h2 : HB W H2 S2 nh2 ch2 ns2 cs2 b) (h3 : HB W H3 S3 nh3 ch3 ns3 cs3 c) (ht : tog [a, b, c] = false) :
    Calls Try.prog 5 #[.agg #[.slice H nh ch, .slice S ns cs], .agg #[.slice H2 nh2 ch2, .slice S2 ns2 cs2], .agg #[.slice H3 nh3 ch3, .slice S3 ns3 cs3]] W (Law.Yes W) := by
  obtain ⟨V0, hV0⟩ : ∃ V0, (((W.alloc (.cells #[.slice H nh ch, .slice S ns cs] 25)).alloc (.cells #[.slice H2 nh2 ch2, .slice S2 ns2 cs2] 25)).alloc (.cells #[.slice H3 nh3 ch3, .slice S3 ns3 cs3] 25)) = V0 := ⟨_, rfl⟩
  have x1 : HG (W.alloc (.cells #[.slice H nh ch, .slice S ns cs] 25)) W.heap.size H S nh ch ns cs a := HG.new h1 rfl
  have x2 : HG ((W.alloc (.cells #[.slice H nh ch, .slice S ns cs] 25)).alloc (.cells #[.slice H2 nh2 ch2, .slice S2 ns2 cs2] 25)) (W.heap.size + 1) H2 S2 nh2 ch2 ns2 cs2 b := HG.new (h2.below (low_lit W _)) (by simp)
  have x3 : HG (((W.alloc (.cells #[.slice H nh ch, .slice S ns cs] 25)).alloc (.cells #[.slice H2 nh2 ch2, .slice S2 ns2 cs2] 25)).alloc (.cells #[.slice H3 nh3 ch3, .slice S3 ns3 cs3] 25)) (W.heap.size + 2) H3 S3 nh3 ch3 ns3 cs3 c := HG.new ((h3.below (low_lit W _)).below (low_lit _ _)) (by simp)
  have X0 := Lib.hid (show HG V0 W.heap.size H S nh ch ns cs a from hV0 ▸ (x1.alloc _).alloc _)
  have Y0 := Lib.hid (show HG V0 (W.heap.size + 1) H2 S2 nh2 ch2 ns2 cs2 b from hV0 ▸ x2.alloc _)
  have Z0 := Lib.hid (show HG V0 (W.heap.size + 2) H3 S3 nh3 ch3 ns3 cs3 c from hV0 ▸ x3)
  have B0 := Lib.hid (show Below W.heap.size W V0 from hV0 ▸ ((low_lit W _).alloc (by simp) _).alloc (by simp; omega) _)
  have AL := Lib.hid (alive_c hN hP hD hA hJ V0)
  clear x1 x2 x3
  have HT := Lib.hid ht
  clear ht
  clear h1 h2 h3
  go_enter Try.func5, Try.ntmps5
  have C1 := Lib.hid (AL.out)
  go_wp2_with fail
  refine C1.out.mono ?_
  rintro e w1 ⟨rfl, hb⟩
  have Xr1 := Lib.hid (X0.out.below hb)
  have Yr1 := Lib.hid (Y0.out.below hb)
  have Zr1 := Lib.hid (Z0.out.below hb)
  have Br1 := Lib.hid (B0.out.trans (hb.mono B0.out.size))
  clear X0 Y0 Z0 B0
  clear hb C1
  obtain ⟨X_0, X_1, -⟩ := Xr1.out
  obtain ⟨Y_0, Y_1, -⟩ := Yr1.out
  obtain ⟨Z_0, Z_1, -⟩ := Zr1.out
  have TL := Lib.hid (together_c hR _ 3 3 [a, b, c] (_ : World) false rfl (by omega) (bags3 w1 H S H2 S2 H3 S3 nh ch ns cs nh2 ch2 ns2 cs2 nh3 ch3 ns3 cs3 a b c Xr1.out.2.2 Yr1.out.2.2 Zr1.out.2.2) HT.out (by omega))
  have LWT := Lib.hid (low_lit w1 (.cells #[.slice H nh ch, .slice S ns cs, .slice H2 nh2 ch2, .slice S2 ns2 cs2, .slice H3 nh3 ch3, .slice S3 ns3 cs3] 25))
  go_wp2_with fail
  refine TL.out.mono ?_
  rintro e w2 ⟨rfl, hb⟩
  clear X_0 X_1 Y_0 Y_1 Z_0 Z_1
  have hb2 : Below w1.heap.size w1 w2 := LWT.out.trans (hb.mono (by simp))
  have Xr2 := Lib.hid (Xr1.out.below hb2)
  have Yr2 := Lib.hid (Yr1.out.below hb2)
  have Zr2 := Lib.hid (Zr1.out.below hb2)
  have Br2 := Lib.hid (Br1.out.trans (hb2.mono Br1.out.size))
  clear Xr1 Yr1 Zr1 Br1
  clear hb hb2 TL LWT
  obtain ⟨X_0, X_1, -⟩ := Xr2.out
  obtain ⟨Y_0, Y_1, -⟩ := Yr2.out
  obtain ⟨Z_0, Z_1, -⟩ := Zr2.out
  go_wp2
  go_ret
  exact ⟨rfl, Br2.out⟩
set_option maxRecDepth 100000 in
set_option maxHeartbeats 16000000 in
theorem lat_many (hN : NewSpec) (hR : RightSpec) (hP : PutSpec) (hD : DropSpec) (hA : AllSpec) (hJ : JoinSpec) (H S H2 S2 H3 S3 : Option Addr) (nh ch ns cs nh2 ch2 ns2 cs2 nh3 ch3 ns3 cs3 : Nat) (a b c : Bg) (W : World) (h1 : HB W H S nh ch ns cs a) (h2 : HB W H2 S2 nh2 ch2 ns2 cs2 b) (h3 : HB W H3 S3 nh3 ch3 ns3 cs3 c) (ht : tog [a, b, c] = true) (h4 : 400 < nh + nh2 + nh3) :
    Calls Try.prog 5 #[.agg #[.slice H nh ch, .slice S ns cs], .agg #[.slice H2 nh2 ch2, .slice S2 ns2 cs2], .agg #[.slice H3 nh3 ch3, .slice S3 ns3 cs3]] W (Law.Yes W) := by
  obtain ⟨V0, hV0⟩ : ∃ V0, (((W.alloc (.cells #[.slice H nh ch, .slice S ns cs] 25)).alloc (.cells #[.slice H2 nh2 ch2, .slice S2 ns2 cs2] 25)).alloc (.cells #[.slice H3 nh3 ch3, .slice S3 ns3 cs3] 25)) = V0 := ⟨_, rfl⟩
  have x1 : HG (W.alloc (.cells #[.slice H nh ch, .slice S ns cs] 25)) W.heap.size H S nh ch ns cs a := HG.new h1 rfl
  have x2 : HG ((W.alloc (.cells #[.slice H nh ch, .slice S ns cs] 25)).alloc (.cells #[.slice H2 nh2 ch2, .slice S2 ns2 cs2] 25)) (W.heap.size + 1) H2 S2 nh2 ch2 ns2 cs2 b := HG.new (h2.below (low_lit W _)) (by simp)
  have x3 : HG (((W.alloc (.cells #[.slice H nh ch, .slice S ns cs] 25)).alloc (.cells #[.slice H2 nh2 ch2, .slice S2 ns2 cs2] 25)).alloc (.cells #[.slice H3 nh3 ch3, .slice S3 ns3 cs3] 25)) (W.heap.size + 2) H3 S3 nh3 ch3 ns3 cs3 c := HG.new ((h3.below (low_lit W _)).below (low_lit _ _)) (by simp)
  have X0 := Lib.hid (show HG V0 W.heap.size H S nh ch ns cs a from hV0 ▸ (x1.alloc _).alloc _)
  have Y0 := Lib.hid (show HG V0 (W.heap.size + 1) H2 S2 nh2 ch2 ns2 cs2 b from hV0 ▸ x2.alloc _)
  have Z0 := Lib.hid (show HG V0 (W.heap.size + 2) H3 S3 nh3 ch3 ns3 cs3 c from hV0 ▸ x3)
  have B0 := Lib.hid (show Below W.heap.size W V0 from hV0 ▸ ((low_lit W _).alloc (by simp) _).alloc (by simp; omega) _)
  have AL := Lib.hid (alive_c hN hP hD hA hJ V0)
  clear x1 x2 x3
  have HT := Lib.hid ht
  have q1 := h1.bh
  have q2 := h2.bh
  have q3 := h3.bh
  have w1 : IntKind.i64.wrap ((nh : Int) + (nh2 : Int)) = (nh : Int) + (nh2 : Int) := IntWalk.i64_in _ (by omega)
  have w2 : IntKind.i64.wrap ((nh : Int) + (nh2 : Int) + (nh3 : Int)) = (nh : Int) + (nh2 : Int) + (nh3 : Int) := IntWalk.i64_in _ (by omega)
  have i4 : (400 : Int) < (nh : Int) + (nh2 : Int) + (nh3 : Int) := by omega
  clear ht h4
  clear h1 h2 h3
  go_enter Try.func5, Try.ntmps5
  have C1 := Lib.hid (AL.out)
  go_wp2_with fail
  refine C1.out.mono ?_
  rintro e w1 ⟨rfl, hb⟩
  have Xr1 := Lib.hid (X0.out.below hb)
  have Yr1 := Lib.hid (Y0.out.below hb)
  have Zr1 := Lib.hid (Z0.out.below hb)
  have Br1 := Lib.hid (B0.out.trans (hb.mono B0.out.size))
  clear X0 Y0 Z0 B0
  clear hb C1
  obtain ⟨X_0, X_1, -⟩ := Xr1.out
  obtain ⟨Y_0, Y_1, -⟩ := Yr1.out
  obtain ⟨Z_0, Z_1, -⟩ := Zr1.out
  have TL := Lib.hid (together_c hR _ 3 3 [a, b, c] (_ : World) true rfl (by omega) (bags3 w1 H S H2 S2 H3 S3 nh ch ns cs nh2 ch2 ns2 cs2 nh3 ch3 ns3 cs3 a b c Xr1.out.2.2 Yr1.out.2.2 Zr1.out.2.2) HT.out (by omega))
  have LWT := Lib.hid (low_lit w1 (.cells #[.slice H nh ch, .slice S ns cs, .slice H2 nh2 ch2, .slice S2 ns2 cs2, .slice H3 nh3 ch3, .slice S3 ns3 cs3] 25))
  go_wp2_with fail
  refine TL.out.mono ?_
  rintro e w2 ⟨rfl, hb⟩
  clear X_0 X_1 Y_0 Y_1 Z_0 Z_1
  have hb2 : Below w1.heap.size w1 w2 := LWT.out.trans (hb.mono (by simp))
  have Xr2 := Lib.hid (Xr1.out.below hb2)
  have Yr2 := Lib.hid (Yr1.out.below hb2)
  have Zr2 := Lib.hid (Zr1.out.below hb2)
  have Br2 := Lib.hid (Br1.out.trans (hb2.mono Br1.out.size))
  clear Xr1 Yr1 Zr1 Br1
  clear hb hb2 TL LWT
  obtain ⟨X_0, X_1, -⟩ := Xr2.out
  obtain ⟨Y_0, Y_1, -⟩ := Yr2.out
  obtain ⟨Z_0, Z_1, -⟩ := Zr2.out
  go_wp2
  go_ret
  exact ⟨rfl, Br2.out⟩
set_option maxRecDepth 100000 in
set_option maxHeartbeats 16000000 in
theorem lat_all (hN : NewSpec) (hR : RightSpec) (hP : PutSpec) (hD : DropSpec) (hA : AllSpec) (hJ : JoinSpec) (H S H2 S2 H3 S3 : Option Addr) (nh ch ns cs nh2 ch2 ns2 cs2 nh3 ch3 ns3 cs3 : Nat) (a b c : Bg) (W : World) (h1 : HB W H S nh ch ns cs a) (h2 : HB W H2 S2 nh2 ch2 ns2 cs2 b) (h3 : HB W H3 S3 nh3 ch3 ns3 cs3 c) (ht : tog [a, b, c] = true) (h4 : ¬ 400 < nh + nh2 + nh3) :
    Calls Try.prog 5 #[.agg #[.slice H nh ch, .slice S ns cs], .agg #[.slice H2 nh2 ch2, .slice S2 ns2 cs2], .agg #[.slice H3 nh3 ch3, .slice S3 ns3 cs3]] W (Law.Yes W) := by
  obtain ⟨V0, hV0⟩ : ∃ V0, (((W.alloc (.cells #[.slice H nh ch, .slice S ns cs] 25)).alloc (.cells #[.slice H2 nh2 ch2, .slice S2 ns2 cs2] 25)).alloc (.cells #[.slice H3 nh3 ch3, .slice S3 ns3 cs3] 25)) = V0 := ⟨_, rfl⟩
  have x1 : HG (W.alloc (.cells #[.slice H nh ch, .slice S ns cs] 25)) W.heap.size H S nh ch ns cs a := HG.new h1 rfl
  have x2 : HG ((W.alloc (.cells #[.slice H nh ch, .slice S ns cs] 25)).alloc (.cells #[.slice H2 nh2 ch2, .slice S2 ns2 cs2] 25)) (W.heap.size + 1) H2 S2 nh2 ch2 ns2 cs2 b := HG.new (h2.below (low_lit W _)) (by simp)
  have x3 : HG (((W.alloc (.cells #[.slice H nh ch, .slice S ns cs] 25)).alloc (.cells #[.slice H2 nh2 ch2, .slice S2 ns2 cs2] 25)).alloc (.cells #[.slice H3 nh3 ch3, .slice S3 ns3 cs3] 25)) (W.heap.size + 2) H3 S3 nh3 ch3 ns3 cs3 c := HG.new ((h3.below (low_lit W _)).below (low_lit _ _)) (by simp)
  have X0 := Lib.hid (show HG V0 W.heap.size H S nh ch ns cs a from hV0 ▸ (x1.alloc _).alloc _)
  have Y0 := Lib.hid (show HG V0 (W.heap.size + 1) H2 S2 nh2 ch2 ns2 cs2 b from hV0 ▸ x2.alloc _)
  have Z0 := Lib.hid (show HG V0 (W.heap.size + 2) H3 S3 nh3 ch3 ns3 cs3 c from hV0 ▸ x3)
  have B0 := Lib.hid (show Below W.heap.size W V0 from hV0 ▸ ((low_lit W _).alloc (by simp) _).alloc (by simp; omega) _)
  have AL := Lib.hid (alive_c hN hP hD hA hJ V0)
  clear x1 x2 x3
  have HT := Lib.hid ht
  have q1 := h1.bh
  have q2 := h2.bh
  have q3 := h3.bh
  have w1 : IntKind.i64.wrap ((nh : Int) + (nh2 : Int)) = (nh : Int) + (nh2 : Int) := IntWalk.i64_in _ (by omega)
  have w2 : IntKind.i64.wrap ((nh : Int) + (nh2 : Int) + (nh3 : Int)) = (nh : Int) + (nh2 : Int) + (nh3 : Int) := IntWalk.i64_in _ (by omega)
  have i4 : ¬ (400 : Int) < (nh : Int) + (nh2 : Int) + (nh3 : Int) := by omega
  obtain ⟨wd, hc, la, lb, lc⟩ := tog_like ht
  have l4 : (tags [a, b, c]).length ≤ 400 := by rw [tags_len, h1.lenH, h2.lenH, h3.lenH]; omega
  generalize tags [a, b, c] = l at hc la lb lc l4
  obtain ⟨p, ep⟩ : ∃ u, jn a b = u := ⟨_, rfl⟩
  have lp : Like l wd p := ep ▸ la.jn lb l4
  have Ep := Lib.hid (like_e hc l4 la lb)
  have Fp := Lib.hid (show joinB a b = p from (like_b hc l4 la lb).trans ep)
  obtain ⟨mp, kp⟩ : ∃ n, p.1.length = n := ⟨_, rfl⟩
  have Kp := Lib.hid kp
  have Lp := Lib.hid (lp.len)
  obtain ⟨p2, ep2⟩ : ∃ u, jn b a = u := ⟨_, rfl⟩
  have lp2 : Like l wd p2 := ep2 ▸ lb.jn la l4
  have Ep2 := Lib.hid (like_e hc l4 lb la)
  have Fp2 := Lib.hid (show joinB b a = p2 from (like_b hc l4 lb la).trans ep2)
  obtain ⟨mp2, kp2⟩ : ∃ n, p2.1.length = n := ⟨_, rfl⟩
  have Kp2 := Lib.hid kp2
  have Lp2 := Lib.hid (lp2.len)
  obtain ⟨s, es⟩ : ∃ u, jn b c = u := ⟨_, rfl⟩
  have ls : Like l wd s := es ▸ lb.jn lc l4
  have Es := Lib.hid (like_e hc l4 lb lc)
  have Fs := Lib.hid (show joinB b c = s from (like_b hc l4 lb lc).trans es)
  obtain ⟨ms, ks⟩ : ∃ n, s.1.length = n := ⟨_, rfl⟩
  have Ks := Lib.hid ks
  have Ls := Lib.hid (ls.len)
  obtain ⟨o, eo⟩ : ∃ u, jn a a = u := ⟨_, rfl⟩
  have lo : Like l wd o := eo ▸ la.jn la l4
  have Eo := Lib.hid (like_e hc l4 la la)
  have Fo := Lib.hid (show joinB a a = o from (like_b hc l4 la la).trans eo)
  obtain ⟨mo, ko⟩ : ∃ n, o.1.length = n := ⟨_, rfl⟩
  have Ko := Lib.hid ko
  have Lo := Lib.hid (lo.len)
  obtain ⟨x, ex⟩ : ∃ u, jn p c = u := ⟨_, rfl⟩
  have lx : Like l wd x := ex ▸ lp.jn lc l4
  have Ex := Lib.hid (like_e hc l4 lp lc)
  have Fx := Lib.hid (show joinB p c = x from (like_b hc l4 lp lc).trans ex)
  obtain ⟨mx, kx⟩ : ∃ n, x.1.length = n := ⟨_, rfl⟩
  have Kx := Lib.hid kx
  have Lx := Lib.hid (lx.len)
  obtain ⟨y, ey⟩ : ∃ u, jn a s = u := ⟨_, rfl⟩
  have ly : Like l wd y := ey ▸ la.jn ls l4
  have Ey := Lib.hid (like_e hc l4 la ls)
  have Fy := Lib.hid (show joinB a s = y from (like_b hc l4 la ls).trans ey)
  obtain ⟨my, ky⟩ : ∃ n, y.1.length = n := ⟨_, rfl⟩
  have Ky := Lib.hid ky
  have Ly := Lib.hid (ly.len)
  obtain ⟨z, ez⟩ : ∃ u, jn x a = u := ⟨_, rfl⟩
  have lz : Like l wd z := ez ▸ lx.jn la l4
  have Ez := Lib.hid (like_e hc l4 lx la)
  have Fz := Lib.hid (show joinB x a = z from (like_b hc l4 lx la).trans ez)
  obtain ⟨mz, kz⟩ : ∃ n, z.1.length = n := ⟨_, rfl⟩
  have Kz := Lib.hid kz
  have Lz := Lib.hid (lz.len)
  have R1 := Lib.hid (show p = p2 by rw [← ep, ← ep2]; exact jn_comm la.ok lb.ok)
  have R2 := Lib.hid (show x = y by rw [← ex, ← ey, ← es, ← ep]; exact jn_assoc l4 la lb lc)
  have R3 := Lib.hid (show o = a by rw [← eo]; exact jn_self la.ok)
  have R4 := Lib.hid (show z = x by rw [← ez, ← ex, ← ep]; exact jn_absorb l4 la lb lc)
  clear ht h4 hc la lb lc l4 ep lp kp ep2 lp2 kp2 es ls ks eo lo ko ex lx kx ey ly ky ez lz kz
  clear h1 h2 h3
  go_enter Try.func5, Try.ntmps5
  have C1 := Lib.hid (AL.out)
  go_wp2_with fail
  refine C1.out.mono ?_
  rintro e w1 ⟨rfl, hb⟩
  have Xr1 := Lib.hid (X0.out.below hb)
  have Yr1 := Lib.hid (Y0.out.below hb)
  have Zr1 := Lib.hid (Z0.out.below hb)
  have Br1 := Lib.hid (B0.out.trans (hb.mono B0.out.size))
  clear X0 Y0 Z0 B0
  clear hb C1
  obtain ⟨X_0, X_1, -⟩ := Xr1.out
  obtain ⟨Y_0, Y_1, -⟩ := Yr1.out
  obtain ⟨Z_0, Z_1, -⟩ := Zr1.out
  have TL := Lib.hid (together_c hR _ 3 3 [a, b, c] (_ : World) true rfl (by omega) (bags3 w1 H S H2 S2 H3 S3 nh ch ns cs nh2 ch2 ns2 cs2 nh3 ch3 ns3 cs3 a b c Xr1.out.2.2 Yr1.out.2.2 Zr1.out.2.2) HT.out (by omega))
  have LWT := Lib.hid (low_lit w1 (.cells #[.slice H nh ch, .slice S ns cs, .slice H2 nh2 ch2, .slice S2 ns2 cs2, .slice H3 nh3 ch3, .slice S3 ns3 cs3] 25))
  go_wp2_with fail
  refine TL.out.mono ?_
  rintro e w2 ⟨rfl, hb⟩
  clear X_0 X_1 Y_0 Y_1 Z_0 Z_1
  have hb2 : Below w1.heap.size w1 w2 := LWT.out.trans (hb.mono (by simp))
  have Xr2 := Lib.hid (Xr1.out.below hb2)
  have Yr2 := Lib.hid (Yr1.out.below hb2)
  have Zr2 := Lib.hid (Zr1.out.below hb2)
  have Br2 := Lib.hid (Br1.out.trans (hb2.mono Br1.out.size))
  clear Xr1 Yr1 Zr1 Br1
  clear hb hb2 TL LWT
  obtain ⟨X_0, X_1, -⟩ := Xr2.out
  obtain ⟨Y_0, Y_1, -⟩ := Yr2.out
  obtain ⟨Z_0, Z_1, -⟩ := Zr2.out
  have C3 := Lib.hid (hJ _ _ _ _ _ _ _ _ _ _ _ _ _ _ _ p mp wd 0 Xr2.out.2.2 Yr2.out.2.2 Ep.out Fp.out Kp.out Lp.out)
  clear X_0 X_1 Y_0 Y_1 Z_0 Z_1
  obtain ⟨X_0, X_1, -⟩ := Xr2.out
  obtain ⟨Y_0, Y_1, -⟩ := Yr2.out
  obtain ⟨Z_0, Z_1, -⟩ := Zr2.out
  go_wp2_with fail
  refine C3.out.mono ?_
  rintro e w3 ⟨H3, S3, hc3, sc3, rfl, hv, hb⟩
  clear X_0 X_1 Y_0 Y_1 Z_0 Z_1
  have Xr3 := Lib.hid (Xr2.out.below hb)
  have Yr3 := Lib.hid (Yr2.out.below hb)
  have Zr3 := Lib.hid (Zr2.out.below hb)
  have Br3 := Lib.hid (Br2.out.trans (hb.mono Br2.out.size))
  clear Xr2 Yr2 Zr2 Br2
  have Xa3 := Lib.hid (Xr3.out.alloc (.cells #[.slice H3 mp hc3, .slice S3 wd sc3] 25))
  have Ya3 := Lib.hid (Yr3.out.alloc (.cells #[.slice H3 mp hc3, .slice S3 wd sc3] 25))
  have Za3 := Lib.hid (Zr3.out.alloc (.cells #[.slice H3 mp hc3, .slice S3 wd sc3] 25))
  have Ba3 := Lib.hid (Br3.out.alloc Br3.out.size (.cells #[.slice H3 mp hc3, .slice S3 wd sc3] 25))
  have Jpa3 := Lib.hid (HG.new hv (rfl : w3.heap.size = w3.heap.size))
  clear hv hb C3 Xr3 Yr3 Zr3 Br3
  obtain ⟨X_0, X_1, -⟩ := Xa3.out
  obtain ⟨Y_0, Y_1, -⟩ := Ya3.out
  obtain ⟨Z_0, Z_1, -⟩ := Za3.out
  obtain ⟨Jp_0, Jp_1, -⟩ := Jpa3.out
  have C4 := Lib.hid (hJ _ _ _ _ _ _ _ _ _ _ _ _ _ _ _ p2 mp2 wd 0 Ya3.out.2.2 Xa3.out.2.2 Ep2.out Fp2.out Kp2.out Lp2.out)
  clear X_0 X_1 Y_0 Y_1 Z_0 Z_1 Jp_0 Jp_1
  obtain ⟨X_0, X_1, -⟩ := Xa3.out
  obtain ⟨Y_0, Y_1, -⟩ := Ya3.out
  obtain ⟨Z_0, Z_1, -⟩ := Za3.out
  obtain ⟨Jp_0, Jp_1, -⟩ := Jpa3.out
  go_wp2_with fail
  refine C4.out.mono ?_
  rintro e w4 ⟨H4, S4, hc4, sc4, rfl, hv, hb⟩
  clear X_0 X_1 Y_0 Y_1 Z_0 Z_1 Jp_0 Jp_1
  have Xr4 := Lib.hid (Xa3.out.below hb)
  have Yr4 := Lib.hid (Ya3.out.below hb)
  have Zr4 := Lib.hid (Za3.out.below hb)
  have Jpr4 := Lib.hid (Jpa3.out.below hb)
  have Br4 := Lib.hid (Ba3.out.trans (hb.mono Ba3.out.size))
  clear Xa3 Ya3 Za3 Jpa3 Ba3
  have Xa4 := Lib.hid (Xr4.out.alloc (.cells #[.slice H4 mp2 hc4, .slice S4 wd sc4] 25))
  have Ya4 := Lib.hid (Yr4.out.alloc (.cells #[.slice H4 mp2 hc4, .slice S4 wd sc4] 25))
  have Za4 := Lib.hid (Zr4.out.alloc (.cells #[.slice H4 mp2 hc4, .slice S4 wd sc4] 25))
  have Jpa4 := Lib.hid (Jpr4.out.alloc (.cells #[.slice H4 mp2 hc4, .slice S4 wd sc4] 25))
  have Ba4 := Lib.hid (Br4.out.alloc Br4.out.size (.cells #[.slice H4 mp2 hc4, .slice S4 wd sc4] 25))
  have Jp2a4 := Lib.hid (HG.new hv (rfl : w4.heap.size = w4.heap.size))
  clear hv hb C4 Xr4 Yr4 Zr4 Jpr4 Br4
  obtain ⟨X_0, X_1, -⟩ := Xa4.out
  obtain ⟨Y_0, Y_1, -⟩ := Ya4.out
  obtain ⟨Z_0, Z_1, -⟩ := Za4.out
  obtain ⟨Jp_0, Jp_1, -⟩ := Jpa4.out
  obtain ⟨Jp2_0, Jp2_1, -⟩ := Jp2a4.out
  have C5 := Lib.hid (hJ _ _ _ _ _ _ _ _ _ _ _ _ _ _ _ s ms wd 0 Ya4.out.2.2 Za4.out.2.2 Es.out Fs.out Ks.out Ls.out)
  clear X_0 X_1 Y_0 Y_1 Z_0 Z_1 Jp_0 Jp_1 Jp2_0 Jp2_1
  obtain ⟨X_0, X_1, -⟩ := Xa4.out
  obtain ⟨Y_0, Y_1, -⟩ := Ya4.out
  obtain ⟨Z_0, Z_1, -⟩ := Za4.out
  obtain ⟨Jp_0, Jp_1, -⟩ := Jpa4.out
  obtain ⟨Jp2_0, Jp2_1, -⟩ := Jp2a4.out
  go_wp2_with fail
  refine C5.out.mono ?_
  rintro e w5 ⟨H5, S5, hc5, sc5, rfl, hv, hb⟩
  clear X_0 X_1 Y_0 Y_1 Z_0 Z_1 Jp_0 Jp_1 Jp2_0 Jp2_1
  have Xr5 := Lib.hid (Xa4.out.below hb)
  have Yr5 := Lib.hid (Ya4.out.below hb)
  have Zr5 := Lib.hid (Za4.out.below hb)
  have Jpr5 := Lib.hid (Jpa4.out.below hb)
  have Jp2r5 := Lib.hid (Jp2a4.out.below hb)
  have Br5 := Lib.hid (Ba4.out.trans (hb.mono Ba4.out.size))
  clear Xa4 Ya4 Za4 Jpa4 Jp2a4 Ba4
  have Xa5 := Lib.hid (Xr5.out.alloc (.cells #[.slice H5 ms hc5, .slice S5 wd sc5] 25))
  have Ya5 := Lib.hid (Yr5.out.alloc (.cells #[.slice H5 ms hc5, .slice S5 wd sc5] 25))
  have Za5 := Lib.hid (Zr5.out.alloc (.cells #[.slice H5 ms hc5, .slice S5 wd sc5] 25))
  have Jpa5 := Lib.hid (Jpr5.out.alloc (.cells #[.slice H5 ms hc5, .slice S5 wd sc5] 25))
  have Jp2a5 := Lib.hid (Jp2r5.out.alloc (.cells #[.slice H5 ms hc5, .slice S5 wd sc5] 25))
  have Ba5 := Lib.hid (Br5.out.alloc Br5.out.size (.cells #[.slice H5 ms hc5, .slice S5 wd sc5] 25))
  have Jsa5 := Lib.hid (HG.new hv (rfl : w5.heap.size = w5.heap.size))
  clear hv hb C5 Xr5 Yr5 Zr5 Jpr5 Jp2r5 Br5
  obtain ⟨X_0, X_1, -⟩ := Xa5.out
  obtain ⟨Y_0, Y_1, -⟩ := Ya5.out
  obtain ⟨Z_0, Z_1, -⟩ := Za5.out
  obtain ⟨Jp_0, Jp_1, -⟩ := Jpa5.out
  obtain ⟨Jp2_0, Jp2_1, -⟩ := Jp2a5.out
  obtain ⟨Js_0, Js_1, -⟩ := Jsa5.out
  have C6 := Lib.hid (hJ _ _ _ _ _ _ _ _ _ _ _ _ _ _ _ o mo wd 0 Xa5.out.2.2 Xa5.out.2.2 Eo.out Fo.out Ko.out Lo.out)
  clear X_0 X_1 Y_0 Y_1 Z_0 Z_1 Jp_0 Jp_1 Jp2_0 Jp2_1 Js_0 Js_1
  obtain ⟨X_0, X_1, -⟩ := Xa5.out
  obtain ⟨Y_0, Y_1, -⟩ := Ya5.out
  obtain ⟨Z_0, Z_1, -⟩ := Za5.out
  obtain ⟨Jp_0, Jp_1, -⟩ := Jpa5.out
  obtain ⟨Jp2_0, Jp2_1, -⟩ := Jp2a5.out
  obtain ⟨Js_0, Js_1, -⟩ := Jsa5.out
  go_wp2_with fail
  refine C6.out.mono ?_
  rintro e w6 ⟨H6, S6, hc6, sc6, rfl, hv, hb⟩
  clear X_0 X_1 Y_0 Y_1 Z_0 Z_1 Jp_0 Jp_1 Jp2_0 Jp2_1 Js_0 Js_1
  have Xr6 := Lib.hid (Xa5.out.below hb)
  have Yr6 := Lib.hid (Ya5.out.below hb)
  have Zr6 := Lib.hid (Za5.out.below hb)
  have Jpr6 := Lib.hid (Jpa5.out.below hb)
  have Jp2r6 := Lib.hid (Jp2a5.out.below hb)
  have Jsr6 := Lib.hid (Jsa5.out.below hb)
  have Br6 := Lib.hid (Ba5.out.trans (hb.mono Ba5.out.size))
  clear Xa5 Ya5 Za5 Jpa5 Jp2a5 Jsa5 Ba5
  have Xa6 := Lib.hid (Xr6.out.alloc (.cells #[.slice H6 mo hc6, .slice S6 wd sc6] 25))
  have Ya6 := Lib.hid (Yr6.out.alloc (.cells #[.slice H6 mo hc6, .slice S6 wd sc6] 25))
  have Za6 := Lib.hid (Zr6.out.alloc (.cells #[.slice H6 mo hc6, .slice S6 wd sc6] 25))
  have Jpa6 := Lib.hid (Jpr6.out.alloc (.cells #[.slice H6 mo hc6, .slice S6 wd sc6] 25))
  have Jp2a6 := Lib.hid (Jp2r6.out.alloc (.cells #[.slice H6 mo hc6, .slice S6 wd sc6] 25))
  have Jsa6 := Lib.hid (Jsr6.out.alloc (.cells #[.slice H6 mo hc6, .slice S6 wd sc6] 25))
  have Ba6 := Lib.hid (Br6.out.alloc Br6.out.size (.cells #[.slice H6 mo hc6, .slice S6 wd sc6] 25))
  have Joa6 := Lib.hid (HG.new hv (rfl : w6.heap.size = w6.heap.size))
  clear hv hb C6 Xr6 Yr6 Zr6 Jpr6 Jp2r6 Jsr6 Br6
  obtain ⟨X_0, X_1, -⟩ := Xa6.out
  obtain ⟨Y_0, Y_1, -⟩ := Ya6.out
  obtain ⟨Z_0, Z_1, -⟩ := Za6.out
  obtain ⟨Jp_0, Jp_1, -⟩ := Jpa6.out
  obtain ⟨Jp2_0, Jp2_1, -⟩ := Jp2a6.out
  obtain ⟨Js_0, Js_1, -⟩ := Jsa6.out
  obtain ⟨Jo_0, Jo_1, -⟩ := Joa6.out
  have C7 := Lib.hid (hJ _ _ _ _ _ _ _ _ _ _ _ _ _ _ _ x mx wd 0 Jpa6.out.2.2 Za6.out.2.2 Ex.out Fx.out Kx.out Lx.out)
  clear X_0 X_1 Y_0 Y_1 Z_0 Z_1 Jp_0 Jp_1 Jp2_0 Jp2_1 Js_0 Js_1 Jo_0 Jo_1
  obtain ⟨X_0, X_1, -⟩ := Xa6.out
  obtain ⟨Y_0, Y_1, -⟩ := Ya6.out
  obtain ⟨Z_0, Z_1, -⟩ := Za6.out
  obtain ⟨Jp_0, Jp_1, -⟩ := Jpa6.out
  obtain ⟨Jp2_0, Jp2_1, -⟩ := Jp2a6.out
  obtain ⟨Js_0, Js_1, -⟩ := Jsa6.out
  obtain ⟨Jo_0, Jo_1, -⟩ := Joa6.out
  go_wp2_with fail
  refine C7.out.mono ?_
  rintro e w7 ⟨H7, S7, hc7, sc7, rfl, hv, hb⟩
  clear X_0 X_1 Y_0 Y_1 Z_0 Z_1 Jp_0 Jp_1 Jp2_0 Jp2_1 Js_0 Js_1 Jo_0 Jo_1
  have Xr7 := Lib.hid (Xa6.out.below hb)
  have Yr7 := Lib.hid (Ya6.out.below hb)
  have Zr7 := Lib.hid (Za6.out.below hb)
  have Jpr7 := Lib.hid (Jpa6.out.below hb)
  have Jp2r7 := Lib.hid (Jp2a6.out.below hb)
  have Jsr7 := Lib.hid (Jsa6.out.below hb)
  have Jor7 := Lib.hid (Joa6.out.below hb)
  have Br7 := Lib.hid (Ba6.out.trans (hb.mono Ba6.out.size))
  clear Xa6 Ya6 Za6 Jpa6 Jp2a6 Jsa6 Joa6 Ba6
  have Xa7 := Lib.hid (Xr7.out.alloc (.cells #[.slice H7 mx hc7, .slice S7 wd sc7] 25))
  have Ya7 := Lib.hid (Yr7.out.alloc (.cells #[.slice H7 mx hc7, .slice S7 wd sc7] 25))
  have Za7 := Lib.hid (Zr7.out.alloc (.cells #[.slice H7 mx hc7, .slice S7 wd sc7] 25))
  have Jpa7 := Lib.hid (Jpr7.out.alloc (.cells #[.slice H7 mx hc7, .slice S7 wd sc7] 25))
  have Jp2a7 := Lib.hid (Jp2r7.out.alloc (.cells #[.slice H7 mx hc7, .slice S7 wd sc7] 25))
  have Jsa7 := Lib.hid (Jsr7.out.alloc (.cells #[.slice H7 mx hc7, .slice S7 wd sc7] 25))
  have Joa7 := Lib.hid (Jor7.out.alloc (.cells #[.slice H7 mx hc7, .slice S7 wd sc7] 25))
  have Ba7 := Lib.hid (Br7.out.alloc Br7.out.size (.cells #[.slice H7 mx hc7, .slice S7 wd sc7] 25))
  have Jxa7 := Lib.hid (HG.new hv (rfl : w7.heap.size = w7.heap.size))
  clear hv hb C7 Xr7 Yr7 Zr7 Jpr7 Jp2r7 Jsr7 Jor7 Br7
  obtain ⟨X_0, X_1, -⟩ := Xa7.out
  obtain ⟨Y_0, Y_1, -⟩ := Ya7.out
  obtain ⟨Z_0, Z_1, -⟩ := Za7.out
  obtain ⟨Jp_0, Jp_1, -⟩ := Jpa7.out
  obtain ⟨Jp2_0, Jp2_1, -⟩ := Jp2a7.out
  obtain ⟨Js_0, Js_1, -⟩ := Jsa7.out
  obtain ⟨Jo_0, Jo_1, -⟩ := Joa7.out
  obtain ⟨Jx_0, Jx_1, -⟩ := Jxa7.out
  have C8 := Lib.hid (hJ _ _ _ _ _ _ _ _ _ _ _ _ _ _ _ y my wd 0 Xa7.out.2.2 Jsa7.out.2.2 Ey.out Fy.out Ky.out Ly.out)
  clear X_0 X_1 Y_0 Y_1 Z_0 Z_1 Jp_0 Jp_1 Jp2_0 Jp2_1 Js_0 Js_1 Jo_0 Jo_1 Jx_0 Jx_1
  obtain ⟨X_0, X_1, -⟩ := Xa7.out
  obtain ⟨Y_0, Y_1, -⟩ := Ya7.out
  obtain ⟨Z_0, Z_1, -⟩ := Za7.out
  obtain ⟨Jp_0, Jp_1, -⟩ := Jpa7.out
  obtain ⟨Jp2_0, Jp2_1, -⟩ := Jp2a7.out
  obtain ⟨Js_0, Js_1, -⟩ := Jsa7.out
  obtain ⟨Jo_0, Jo_1, -⟩ := Joa7.out
  obtain ⟨Jx_0, Jx_1, -⟩ := Jxa7.out
  go_wp2_with fail
  refine C8.out.mono ?_
  rintro e w8 ⟨H8, S8, hc8, sc8, rfl, hv, hb⟩
  clear X_0 X_1 Y_0 Y_1 Z_0 Z_1 Jp_0 Jp_1 Jp2_0 Jp2_1 Js_0 Js_1 Jo_0 Jo_1 Jx_0 Jx_1
  have Xr8 := Lib.hid (Xa7.out.below hb)
  have Yr8 := Lib.hid (Ya7.out.below hb)
  have Zr8 := Lib.hid (Za7.out.below hb)
  have Jpr8 := Lib.hid (Jpa7.out.below hb)
  have Jp2r8 := Lib.hid (Jp2a7.out.below hb)
  have Jsr8 := Lib.hid (Jsa7.out.below hb)
  have Jor8 := Lib.hid (Joa7.out.below hb)
  have Jxr8 := Lib.hid (Jxa7.out.below hb)
  have Br8 := Lib.hid (Ba7.out.trans (hb.mono Ba7.out.size))
  clear Xa7 Ya7 Za7 Jpa7 Jp2a7 Jsa7 Joa7 Jxa7 Ba7
  have Xa8 := Lib.hid (Xr8.out.alloc (.cells #[.slice H8 my hc8, .slice S8 wd sc8] 25))
  have Ya8 := Lib.hid (Yr8.out.alloc (.cells #[.slice H8 my hc8, .slice S8 wd sc8] 25))
  have Za8 := Lib.hid (Zr8.out.alloc (.cells #[.slice H8 my hc8, .slice S8 wd sc8] 25))
  have Jpa8 := Lib.hid (Jpr8.out.alloc (.cells #[.slice H8 my hc8, .slice S8 wd sc8] 25))
  have Jp2a8 := Lib.hid (Jp2r8.out.alloc (.cells #[.slice H8 my hc8, .slice S8 wd sc8] 25))
  have Jsa8 := Lib.hid (Jsr8.out.alloc (.cells #[.slice H8 my hc8, .slice S8 wd sc8] 25))
  have Joa8 := Lib.hid (Jor8.out.alloc (.cells #[.slice H8 my hc8, .slice S8 wd sc8] 25))
  have Jxa8 := Lib.hid (Jxr8.out.alloc (.cells #[.slice H8 my hc8, .slice S8 wd sc8] 25))
  have Ba8 := Lib.hid (Br8.out.alloc Br8.out.size (.cells #[.slice H8 my hc8, .slice S8 wd sc8] 25))
  have Jya8 := Lib.hid (HG.new hv (rfl : w8.heap.size = w8.heap.size))
  clear hv hb C8 Xr8 Yr8 Zr8 Jpr8 Jp2r8 Jsr8 Jor8 Jxr8 Br8
  obtain ⟨X_0, X_1, -⟩ := Xa8.out
  obtain ⟨Y_0, Y_1, -⟩ := Ya8.out
  obtain ⟨Z_0, Z_1, -⟩ := Za8.out
  obtain ⟨Jp_0, Jp_1, -⟩ := Jpa8.out
  obtain ⟨Jp2_0, Jp2_1, -⟩ := Jp2a8.out
  obtain ⟨Js_0, Js_1, -⟩ := Jsa8.out
  obtain ⟨Jo_0, Jo_1, -⟩ := Joa8.out
  obtain ⟨Jx_0, Jx_1, -⟩ := Jxa8.out
  obtain ⟨Jy_0, Jy_1, -⟩ := Jya8.out
  have C9 := Lib.hid (hJ _ _ _ _ _ _ _ _ _ _ _ _ _ _ _ z mz wd 0 Jxa8.out.2.2 Xa8.out.2.2 Ez.out Fz.out Kz.out Lz.out)
  clear X_0 X_1 Y_0 Y_1 Z_0 Z_1 Jp_0 Jp_1 Jp2_0 Jp2_1 Js_0 Js_1 Jo_0 Jo_1 Jx_0 Jx_1 Jy_0 Jy_1
  obtain ⟨X_0, X_1, -⟩ := Xa8.out
  obtain ⟨Y_0, Y_1, -⟩ := Ya8.out
  obtain ⟨Z_0, Z_1, -⟩ := Za8.out
  obtain ⟨Jp_0, Jp_1, -⟩ := Jpa8.out
  obtain ⟨Jp2_0, Jp2_1, -⟩ := Jp2a8.out
  obtain ⟨Js_0, Js_1, -⟩ := Jsa8.out
  obtain ⟨Jo_0, Jo_1, -⟩ := Joa8.out
  obtain ⟨Jx_0, Jx_1, -⟩ := Jxa8.out
  obtain ⟨Jy_0, Jy_1, -⟩ := Jya8.out
  go_wp2_with fail
  refine C9.out.mono ?_
  rintro e w9 ⟨H9, S9, hc9, sc9, rfl, hv, hb⟩
  clear X_0 X_1 Y_0 Y_1 Z_0 Z_1 Jp_0 Jp_1 Jp2_0 Jp2_1 Js_0 Js_1 Jo_0 Jo_1 Jx_0 Jx_1 Jy_0 Jy_1
  have Xr9 := Lib.hid (Xa8.out.below hb)
  have Yr9 := Lib.hid (Ya8.out.below hb)
  have Zr9 := Lib.hid (Za8.out.below hb)
  have Jpr9 := Lib.hid (Jpa8.out.below hb)
  have Jp2r9 := Lib.hid (Jp2a8.out.below hb)
  have Jsr9 := Lib.hid (Jsa8.out.below hb)
  have Jor9 := Lib.hid (Joa8.out.below hb)
  have Jxr9 := Lib.hid (Jxa8.out.below hb)
  have Jyr9 := Lib.hid (Jya8.out.below hb)
  have Br9 := Lib.hid (Ba8.out.trans (hb.mono Ba8.out.size))
  clear Xa8 Ya8 Za8 Jpa8 Jp2a8 Jsa8 Joa8 Jxa8 Jya8 Ba8
  have Xa9 := Lib.hid (Xr9.out.alloc (.cells #[.slice H9 mz hc9, .slice S9 wd sc9] 25))
  have Ya9 := Lib.hid (Yr9.out.alloc (.cells #[.slice H9 mz hc9, .slice S9 wd sc9] 25))
  have Za9 := Lib.hid (Zr9.out.alloc (.cells #[.slice H9 mz hc9, .slice S9 wd sc9] 25))
  have Jpa9 := Lib.hid (Jpr9.out.alloc (.cells #[.slice H9 mz hc9, .slice S9 wd sc9] 25))
  have Jp2a9 := Lib.hid (Jp2r9.out.alloc (.cells #[.slice H9 mz hc9, .slice S9 wd sc9] 25))
  have Jsa9 := Lib.hid (Jsr9.out.alloc (.cells #[.slice H9 mz hc9, .slice S9 wd sc9] 25))
  have Joa9 := Lib.hid (Jor9.out.alloc (.cells #[.slice H9 mz hc9, .slice S9 wd sc9] 25))
  have Jxa9 := Lib.hid (Jxr9.out.alloc (.cells #[.slice H9 mz hc9, .slice S9 wd sc9] 25))
  have Jya9 := Lib.hid (Jyr9.out.alloc (.cells #[.slice H9 mz hc9, .slice S9 wd sc9] 25))
  have Ba9 := Lib.hid (Br9.out.alloc Br9.out.size (.cells #[.slice H9 mz hc9, .slice S9 wd sc9] 25))
  have Jza9 := Lib.hid (HG.new hv (rfl : w9.heap.size = w9.heap.size))
  clear hv hb C9 Xr9 Yr9 Zr9 Jpr9 Jp2r9 Jsr9 Jor9 Jxr9 Jyr9 Br9
  obtain ⟨X_0, X_1, -⟩ := Xa9.out
  obtain ⟨Y_0, Y_1, -⟩ := Ya9.out
  obtain ⟨Z_0, Z_1, -⟩ := Za9.out
  obtain ⟨Jp_0, Jp_1, -⟩ := Jpa9.out
  obtain ⟨Jp2_0, Jp2_1, -⟩ := Jp2a9.out
  obtain ⟨Js_0, Js_1, -⟩ := Jsa9.out
  obtain ⟨Jo_0, Jo_1, -⟩ := Joa9.out
  obtain ⟨Jx_0, Jx_1, -⟩ := Jxa9.out
  obtain ⟨Jy_0, Jy_1, -⟩ := Jya9.out
  obtain ⟨Jz_0, Jz_1, -⟩ := Jza9.out
  have C10 := Lib.hid (samebag_c _ _ _ _ _ _ _ _ _ _ _ _ _ _ _ Jpa9.out.2.2 Jp2a9.out.2.2 true (decide_eq_true R1.out))
  go_wp2_with fail
  refine C10.out.mono ?_
  rintro e w10 ⟨rfl, hb⟩
  clear X_0 X_1 Y_0 Y_1 Z_0 Z_1 Jp_0 Jp_1 Jp2_0 Jp2_1 Js_0 Js_1 Jo_0 Jo_1 Jx_0 Jx_1 Jy_0 Jy_1 Jz_0 Jz_1
  have Xr10 := Lib.hid (Xa9.out.below hb)
  have Yr10 := Lib.hid (Ya9.out.below hb)
  have Zr10 := Lib.hid (Za9.out.below hb)
  have Jpr10 := Lib.hid (Jpa9.out.below hb)
  have Jp2r10 := Lib.hid (Jp2a9.out.below hb)
  have Jsr10 := Lib.hid (Jsa9.out.below hb)
  have Jor10 := Lib.hid (Joa9.out.below hb)
  have Jxr10 := Lib.hid (Jxa9.out.below hb)
  have Jyr10 := Lib.hid (Jya9.out.below hb)
  have Jzr10 := Lib.hid (Jza9.out.below hb)
  have Br10 := Lib.hid (Ba9.out.trans (hb.mono Ba9.out.size))
  clear Xa9 Ya9 Za9 Jpa9 Jp2a9 Jsa9 Joa9 Jxa9 Jya9 Jza9 Ba9
  clear hb C10
  obtain ⟨X_0, X_1, -⟩ := Xr10.out
  obtain ⟨Y_0, Y_1, -⟩ := Yr10.out
  obtain ⟨Z_0, Z_1, -⟩ := Zr10.out
  obtain ⟨Jp_0, Jp_1, -⟩ := Jpr10.out
  obtain ⟨Jp2_0, Jp2_1, -⟩ := Jp2r10.out
  obtain ⟨Js_0, Js_1, -⟩ := Jsr10.out
  obtain ⟨Jo_0, Jo_1, -⟩ := Jor10.out
  obtain ⟨Jx_0, Jx_1, -⟩ := Jxr10.out
  obtain ⟨Jy_0, Jy_1, -⟩ := Jyr10.out
  obtain ⟨Jz_0, Jz_1, -⟩ := Jzr10.out
  have C11 := Lib.hid (samebag_c _ _ _ _ _ _ _ _ _ _ _ _ _ _ _ Jxr10.out.2.2 Jyr10.out.2.2 true (decide_eq_true R2.out))
  go_wp2_with fail
  refine C11.out.mono ?_
  rintro e w11 ⟨rfl, hb⟩
  clear X_0 X_1 Y_0 Y_1 Z_0 Z_1 Jp_0 Jp_1 Jp2_0 Jp2_1 Js_0 Js_1 Jo_0 Jo_1 Jx_0 Jx_1 Jy_0 Jy_1 Jz_0 Jz_1
  have Xr11 := Lib.hid (Xr10.out.below hb)
  have Yr11 := Lib.hid (Yr10.out.below hb)
  have Zr11 := Lib.hid (Zr10.out.below hb)
  have Jpr11 := Lib.hid (Jpr10.out.below hb)
  have Jp2r11 := Lib.hid (Jp2r10.out.below hb)
  have Jsr11 := Lib.hid (Jsr10.out.below hb)
  have Jor11 := Lib.hid (Jor10.out.below hb)
  have Jxr11 := Lib.hid (Jxr10.out.below hb)
  have Jyr11 := Lib.hid (Jyr10.out.below hb)
  have Jzr11 := Lib.hid (Jzr10.out.below hb)
  have Br11 := Lib.hid (Br10.out.trans (hb.mono Br10.out.size))
  clear Xr10 Yr10 Zr10 Jpr10 Jp2r10 Jsr10 Jor10 Jxr10 Jyr10 Jzr10 Br10
  clear hb C11
  obtain ⟨X_0, X_1, -⟩ := Xr11.out
  obtain ⟨Y_0, Y_1, -⟩ := Yr11.out
  obtain ⟨Z_0, Z_1, -⟩ := Zr11.out
  obtain ⟨Jp_0, Jp_1, -⟩ := Jpr11.out
  obtain ⟨Jp2_0, Jp2_1, -⟩ := Jp2r11.out
  obtain ⟨Js_0, Js_1, -⟩ := Jsr11.out
  obtain ⟨Jo_0, Jo_1, -⟩ := Jor11.out
  obtain ⟨Jx_0, Jx_1, -⟩ := Jxr11.out
  obtain ⟨Jy_0, Jy_1, -⟩ := Jyr11.out
  obtain ⟨Jz_0, Jz_1, -⟩ := Jzr11.out
  have C12 := Lib.hid (samebag_c _ _ _ _ _ _ _ _ _ _ _ _ _ _ _ Jor11.out.2.2 Xr11.out.2.2 true (decide_eq_true R3.out))
  go_wp2_with fail
  refine C12.out.mono ?_
  rintro e w12 ⟨rfl, hb⟩
  clear X_0 X_1 Y_0 Y_1 Z_0 Z_1 Jp_0 Jp_1 Jp2_0 Jp2_1 Js_0 Js_1 Jo_0 Jo_1 Jx_0 Jx_1 Jy_0 Jy_1 Jz_0 Jz_1
  have Xr12 := Lib.hid (Xr11.out.below hb)
  have Yr12 := Lib.hid (Yr11.out.below hb)
  have Zr12 := Lib.hid (Zr11.out.below hb)
  have Jpr12 := Lib.hid (Jpr11.out.below hb)
  have Jp2r12 := Lib.hid (Jp2r11.out.below hb)
  have Jsr12 := Lib.hid (Jsr11.out.below hb)
  have Jor12 := Lib.hid (Jor11.out.below hb)
  have Jxr12 := Lib.hid (Jxr11.out.below hb)
  have Jyr12 := Lib.hid (Jyr11.out.below hb)
  have Jzr12 := Lib.hid (Jzr11.out.below hb)
  have Br12 := Lib.hid (Br11.out.trans (hb.mono Br11.out.size))
  clear Xr11 Yr11 Zr11 Jpr11 Jp2r11 Jsr11 Jor11 Jxr11 Jyr11 Jzr11 Br11
  clear hb C12
  obtain ⟨X_0, X_1, -⟩ := Xr12.out
  obtain ⟨Y_0, Y_1, -⟩ := Yr12.out
  obtain ⟨Z_0, Z_1, -⟩ := Zr12.out
  obtain ⟨Jp_0, Jp_1, -⟩ := Jpr12.out
  obtain ⟨Jp2_0, Jp2_1, -⟩ := Jp2r12.out
  obtain ⟨Js_0, Js_1, -⟩ := Jsr12.out
  obtain ⟨Jo_0, Jo_1, -⟩ := Jor12.out
  obtain ⟨Jx_0, Jx_1, -⟩ := Jxr12.out
  obtain ⟨Jy_0, Jy_1, -⟩ := Jyr12.out
  obtain ⟨Jz_0, Jz_1, -⟩ := Jzr12.out
  have C13 := Lib.hid (samebag_c _ _ _ _ _ _ _ _ _ _ _ _ _ _ _ Jzr12.out.2.2 Jxr12.out.2.2 true (decide_eq_true R4.out))
  go_wp2_with fail
  refine C13.out.mono ?_
  rintro e w13 ⟨rfl, hb⟩
  clear X_0 X_1 Y_0 Y_1 Z_0 Z_1 Jp_0 Jp_1 Jp2_0 Jp2_1 Js_0 Js_1 Jo_0 Jo_1 Jx_0 Jx_1 Jy_0 Jy_1 Jz_0 Jz_1
  have Xr13 := Lib.hid (Xr12.out.below hb)
  have Yr13 := Lib.hid (Yr12.out.below hb)
  have Zr13 := Lib.hid (Zr12.out.below hb)
  have Jpr13 := Lib.hid (Jpr12.out.below hb)
  have Jp2r13 := Lib.hid (Jp2r12.out.below hb)
  have Jsr13 := Lib.hid (Jsr12.out.below hb)
  have Jor13 := Lib.hid (Jor12.out.below hb)
  have Jxr13 := Lib.hid (Jxr12.out.below hb)
  have Jyr13 := Lib.hid (Jyr12.out.below hb)
  have Jzr13 := Lib.hid (Jzr12.out.below hb)
  have Br13 := Lib.hid (Br12.out.trans (hb.mono Br12.out.size))
  clear Xr12 Yr12 Zr12 Jpr12 Jp2r12 Jsr12 Jor12 Jxr12 Jyr12 Jzr12 Br12
  clear hb C13
  obtain ⟨X_0, X_1, -⟩ := Xr13.out
  obtain ⟨Y_0, Y_1, -⟩ := Yr13.out
  obtain ⟨Z_0, Z_1, -⟩ := Zr13.out
  obtain ⟨Jp_0, Jp_1, -⟩ := Jpr13.out
  obtain ⟨Jp2_0, Jp2_1, -⟩ := Jp2r13.out
  obtain ⟨Js_0, Js_1, -⟩ := Jsr13.out
  obtain ⟨Jo_0, Jo_1, -⟩ := Jor13.out
  obtain ⟨Jx_0, Jx_1, -⟩ := Jxr13.out
  obtain ⟨Jy_0, Jy_1, -⟩ := Jyr13.out
  obtain ⟨Jz_0, Jz_1, -⟩ := Jzr13.out
  go_wp2
  go_ret
  exact ⟨rfl, Br13.out⟩
theorem lat_w (hN : NewSpec) (hR : RightSpec) (hP : PutSpec) (hD : DropSpec) (hA : AllSpec) (hJ : JoinSpec) (H S H2 S2 H3 S3 : Option Addr) (nh ch ns cs nh2 ch2 ns2 cs2 nh3 ch3 ns3 cs3 : Nat) (a b c : Bg) (W : World) (h1 : HB W H S nh ch ns cs a) (h2 : HB W H2 S2 nh2 ch2 ns2 cs2 b) (h3 : HB W H3 S3 nh3 ch3 ns3 cs3 c) :
    Calls Try.prog 5 #[.agg #[.slice H nh ch, .slice S ns cs], .agg #[.slice H2 nh2 ch2, .slice S2 ns2 cs2], .agg #[.slice H3 nh3 ch3, .slice S3 ns3 cs3]] W (Law.Yes W) := by
  cases ht : tog [a, b, c] with
  | false => exact lat_no hN hR hP hD hA hJ H S H2 S2 H3 S3 nh ch ns cs nh2 ch2 ns2 cs2 nh3 ch3 ns3 cs3 a b c W h1 h2 h3 ht
  | true =>
    by_cases h4 : 400 < nh + nh2 + nh3
    · exact lat_many hN hR hP hD hA hJ H S H2 S2 H3 S3 nh ch ns cs nh2 ch2 ns2 cs2 nh3 ch3 ns3 cs3 a b c W h1 h2 h3 ht h4
    · exact lat_all hN hR hP hD hA hJ H S H2 S2 H3 S3 nh ch ns cs nh2 ch2 ns2 cs2 nh3 ch3 ns3 cs3 a b c W h1 h2 h3 ht h4
end Go.Proofs.Ythebilmeehnkpaa.Ors
