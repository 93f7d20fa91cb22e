/-
  What the laws on bags try first.
-/
import Derived.Test.YthebilmeehnkpaaOrRef2
import Derived.Test.YthebilmeehnkpaaOrPure2
namespace Go.Proofs.Ythebilmeehnkpaa.Ors
set_option linter.unusedVariables false
set_option linter.unusedSimpArgs false
open Go.RowKit Mem Gt
open Jump (Gave equalZ_c)

theorem reads_lit1 (V : World) (x : Int) : Reads (V.alloc (.cells #[.int .i64 x] 3)) (some ⟨V.heap.size, 0, none⟩) (ints [x]) := fun k v hv => by
  have kn := Known.made V 3 #[.int .i64 x]
  refine ⟨V.heap.size, 0, rfl, kn.lt, ?_⟩
  cases k with
  | zero => simp at hv; subst hv; exact kn.cell 0
  | succ k => simp at hv
theorem p_new : newE 2 = 0 ∧ newB 2 = ([], [0, 0]) := by decide
theorem p_put1 : putE ([], [0, 0]) 0 = 0 ∧ putB ([], [0, 0]) 0 7 = ([(0, 1, 7)], [1, 0]) := by decide
theorem p_drop : okE ([(0, 1, 7)], [1, 0]) = 0 ∧ dropR ([(0, 1, 7)], [1, 0]) 7 = ([], [1, 0]) := by decide
theorem p_put2 : putE ([(0, 1, 7)], [1, 0]) 1 = 0 ∧ putB ([(0, 1, 7)], [1, 0]) 1 7 = ([(0, 1, 7), (1, 1, 7)], [1, 1]) := by decide
theorem ok_b : okB ([], [1, 0]) = true ∧ okB ([(0, 1, 7), (1, 1, 7)], [1, 1]) = true := by decide
theorem p_join : joinE ([], [1, 0]) ([(0, 1, 7), (1, 1, 7)], [1, 1]) = 0 ∧ joinB ([], [1, 0]) ([(0, 1, 7), (1, 1, 7)], [1, 1]) = ([(1, 1, 7)], [1, 1]) := by
  have h1 := okB_iff.1 ok_b.1
  have h2 := okB_iff.1 ok_b.2
  have hj : joinH ([], [1, 0]) ([(0, 1, 7), (1, 1, 7)], [1, 1]) = [(1, 1, 7)] := joinH_is h1 h2 (by simp) (fun t => by
    unfold Keep sawAt
    simp only [List.mem_singleton, List.not_mem_nil, false_and, false_or, List.mem_cons, or_false]
    constructor
    · rintro rfl; exact ⟨.inr rfl, by decide⟩
    · rintro ⟨rfl | rfl, h⟩
      · exact absurd h (by decide)
      · rfl)
  have e : joinE ([], [1, 0]) ([(0, 1, 7), (1, 1, 7)], [1, 1]) = 0 := joinE_zero.2 ⟨h1, h2, rfl, fun t ht => by simp at ht, by rw [hj]; decide⟩
  exact ⟨e, by rw [joinB_of e, hj]; rfl⟩
theorem p_all : okE ([(1, 1, 7)], [1, 1]) = 0 ∧ allR ([(1, 1, 7)], [1, 1]) = [7] := by decide
theorem fit7 : Fit 7 := by unfold Fit; omega
set_option maxRecDepth 100000 in
set_option maxHeartbeats 16000000 in
theorem alive_c (hN : NewSpec) (hP : PutSpec) (hD : DropSpec) (hA : AllSpec) (hJ : JoinSpec) (W : World) : Calls Try.prog 22 #[] W (Gave (.bool true) W) := by
  have B0 := Lib.hid (Below.refl W.heap.size W)
  have EQ := Lib.hid (fun A c (V : World) (h : Reads V A (ints [7])) => show Calls Try.prog 25 #[.slice A 1 c, .slice (some ⟨V.heap.size, 0, none⟩) 1 1] (V.alloc (.cells #[.int .i64 7] 3)) (Gave (.bool true) (V.alloc (.cells #[.int .i64 7] 3))) from by
    have := equalZ_c A (some ⟨V.heap.size, 0, none⟩) [7] [7] 1 1 c 1 (V.alloc (.cells #[.int .i64 7] 3)) rfl rfl (by decide) (by decide) (h.below (low_lit V _)) (reads_lit1 V 7)
    rwa [decide_eq_true rfl] at this)
  go_enter Try.func22, Try.ntmps22
  have C1 := Lib.hid (hN 2 W ([], [0, 0]) 0 2 0 (by decide) p_new.1 p_new.2 rfl rfl)
  go_wp2_with fail
  refine C1.out.mono ?_
  rintro e w1 ⟨H1, S1, hc1, sc1, rfl, hv, hb⟩
  have Br1 := Lib.hid (B0.out.trans (hb.mono B0.out.size))
  clear B0
  have Ba1 := Lib.hid (Br1.out.alloc Br1.out.size (.cells #[.slice H1 0 hc1, .slice S1 2 sc1] 25))
  have Na1 := Lib.hid (HG.new hv (rfl : w1.heap.size = w1.heap.size))
  clear hv hb C1 Br1
  obtain ⟨N_0, N_1, -⟩ := Na1.out
  have C2 := Lib.hid (hP _ _ _ _ _ _ _ 0 7 _ ([(0, 1, 7)], [1, 0]) 1 2 0 Na1.out.2.2 (by decide) fit7 p_put1.1 p_put1.2 rfl rfl)
  clear N_0 N_1
  obtain ⟨N_0, N_1, -⟩ := Na1.out
  go_wp2_with fail
  refine C2.out.mono ?_
  rintro e w2 ⟨H2, S2, hc2, sc2, rfl, hv, hb⟩
  clear N_0 N_1
  have Nr2 := Lib.hid (Na1.out.below hb)
  have Br2 := Lib.hid (Ba1.out.trans (hb.mono Ba1.out.size))
  clear Na1 Ba1
  have Na2 := Lib.hid (Nr2.out.alloc (.cells #[.slice H2 1 hc2, .slice S2 2 sc2] 25))
  have Ba2 := Lib.hid (Br2.out.alloc Br2.out.size (.cells #[.slice H2 1 hc2, .slice S2 2 sc2] 25))
  have Pa2 := Lib.hid (HG.new hv (rfl : w2.heap.size = w2.heap.size))
  clear hv hb C2 Nr2 Br2
  obtain ⟨N_0, N_1, -⟩ := Na2.out
  obtain ⟨P_0, P_1, -⟩ := Pa2.out
  have C3 := Lib.hid (hD _ _ _ _ _ _ _ 7 _ ([], [1, 0]) 0 2 0 Pa2.out.2.2 fit7 p_drop.1 p_drop.2 rfl rfl)
  clear N_0 N_1 P_0 P_1
  obtain ⟨N_0, N_1, -⟩ := Na2.out
  obtain ⟨P_0, P_1, -⟩ := Pa2.out
  go_wp2_with fail
  refine C3.out.mono ?_
  rintro e w3 ⟨H3, S3, hc3, sc3, rfl, hv, hb⟩
  clear N_0 N_1 P_0 P_1
  have Nr3 := Lib.hid (Na2.out.below hb)
  have Pr3 := Lib.hid (Pa2.out.below hb)
  have Br3 := Lib.hid (Ba2.out.trans (hb.mono Ba2.out.size))
  clear Na2 Pa2 Ba2
  have Na3 := Lib.hid (Nr3.out.alloc (.cells #[.slice H3 0 hc3, .slice S3 2 sc3] 25))
  have Pa3 := Lib.hid (Pr3.out.alloc (.cells #[.slice H3 0 hc3, .slice S3 2 sc3] 25))
  have Ba3 := Lib.hid (Br3.out.alloc Br3.out.size (.cells #[.slice H3 0 hc3, .slice S3 2 sc3] 25))
  have Da3 := Lib.hid (HG.new hv (rfl : w3.heap.size = w3.heap.size))
  clear hv hb C3 Nr3 Pr3 Br3
  obtain ⟨N_0, N_1, -⟩ := Na3.out
  obtain ⟨P_0, P_1, -⟩ := Pa3.out
  obtain ⟨D_0, D_1, -⟩ := Da3.out
  have C4 := Lib.hid (hP _ _ _ _ _ _ _ 1 7 _ ([(0, 1, 7), (1, 1, 7)], [1, 1]) 2 2 0 Pa3.out.2.2 (by decide) fit7 p_put2.1 p_put2.2 rfl rfl)
  clear N_0 N_1 P_0 P_1 D_0 D_1
  obtain ⟨N_0, N_1, -⟩ := Na3.out
  obtain ⟨P_0, P_1, -⟩ := Pa3.out
  obtain ⟨D_0, D_1, -⟩ := Da3.out
  go_wp2_with fail
  refine C4.out.mono ?_
  rintro e w4 ⟨H4, S4, hc4, sc4, rfl, hv, hb⟩
  clear N_0 N_1 P_0 P_1 D_0 D_1
  have Nr4 := Lib.hid (Na3.out.below hb)
  have Pr4 := Lib.hid (Pa3.out.below hb)
  have Dr4 := Lib.hid (Da3.out.below hb)
  have Br4 := Lib.hid (Ba3.out.trans (hb.mono Ba3.out.size))
  clear Na3 Pa3 Da3 Ba3
  have Na4 := Lib.hid (Nr4.out.alloc (.cells #[.slice H4 2 hc4, .slice S4 2 sc4] 25))
  have Pa4 := Lib.hid (Pr4.out.alloc (.cells #[.slice H4 2 hc4, .slice S4 2 sc4] 25))
  have Da4 := Lib.hid (Dr4.out.alloc (.cells #[.slice H4 2 hc4, .slice S4 2 sc4] 25))
  have Ba4 := Lib.hid (Br4.out.alloc Br4.out.size (.cells #[.slice H4 2 hc4, .slice S4 2 sc4] 25))
  have Qa4 := Lib.hid (HG.new hv (rfl : w4.heap.size = w4.heap.size))
  clear hv hb C4 Nr4 Pr4 Dr4 Br4
  obtain ⟨N_0, N_1, -⟩ := Na4.out
  obtain ⟨P_0, P_1, -⟩ := Pa4.out
  obtain ⟨D_0, D_1, -⟩ := Da4.out
  obtain ⟨Q_0, Q_1, -⟩ := Qa4.out
  have C5 := Lib.hid (hJ _ _ _ _ _ _ _ _ _ _ _ _ _ _ _ ([(1, 1, 7)], [1, 1]) 1 2 0 Da4.out.2.2 Qa4.out.2.2 p_join.1 p_join.2 rfl rfl)
  clear N_0 N_1 P_0 P_1 D_0 D_1 Q_0 Q_1
  obtain ⟨N_0, N_1, -⟩ := Na4.out
  obtain ⟨P_0, P_1, -⟩ := Pa4.out
  obtain ⟨D_0, D_1, -⟩ := Da4.out
  obtain ⟨Q_0, Q_1, -⟩ := Qa4.out
  go_wp2_with fail
  refine C5.out.mono ?_
  rintro e w5 ⟨H5, S5, hc5, sc5, rfl, hv, hb⟩
  clear N_0 N_1 P_0 P_1 D_0 D_1 Q_0 Q_1
  have Nr5 := Lib.hid (Na4.out.below hb)
  have Pr5 := Lib.hid (Pa4.out.below hb)
  have Dr5 := Lib.hid (Da4.out.below hb)
  have Qr5 := Lib.hid (Qa4.out.below hb)
  have Br5 := Lib.hid (Ba4.out.trans (hb.mono Ba4.out.size))
  clear Na4 Pa4 Da4 Qa4 Ba4
  have Na5 := Lib.hid (Nr5.out.alloc (.cells #[.slice H5 1 hc5, .slice S5 2 sc5] 25))
  have Pa5 := Lib.hid (Pr5.out.alloc (.cells #[.slice H5 1 hc5, .slice S5 2 sc5] 25))
  have Da5 := Lib.hid (Dr5.out.alloc (.cells #[.slice H5 1 hc5, .slice S5 2 sc5] 25))
  have Qa5 := Lib.hid (Qr5.out.alloc (.cells #[.slice H5 1 hc5, .slice S5 2 sc5] 25))
  have Ba5 := Lib.hid (Br5.out.alloc Br5.out.size (.cells #[.slice H5 1 hc5, .slice S5 2 sc5] 25))
  have Ja5 := Lib.hid (HG.new hv (rfl : w5.heap.size = w5.heap.size))
  clear hv hb C5 Nr5 Pr5 Dr5 Qr5 Br5
  obtain ⟨N_0, N_1, -⟩ := Na5.out
  obtain ⟨P_0, P_1, -⟩ := Pa5.out
  obtain ⟨D_0, D_1, -⟩ := Da5.out
  obtain ⟨Q_0, Q_1, -⟩ := Qa5.out
  obtain ⟨J_0, J_1, -⟩ := Ja5.out
  have C6 := Lib.hid (hA _ _ _ _ _ _ _ _ [7] 1 0 Ja5.out.2.2 p_all.1 p_all.2 rfl)
  go_wp2_with fail
  refine C6.out.mono ?_
  rintro e w6 ⟨L6, lc6, rfl, hcap6, hv, hb⟩
  clear N_0 N_1 P_0 P_1 D_0 D_1 Q_0 Q_1 J_0 J_1
  have Nr6 := Lib.hid (Na5.out.below hb)
  have Pr6 := Lib.hid (Pa5.out.below hb)
  have Dr6 := Lib.hid (Da5.out.below hb)
  have Qr6 := Lib.hid (Qa5.out.below hb)
  have Jr6 := Lib.hid (Ja5.out.below hb)
  have Br6 := Lib.hid (Ba5.out.trans (hb.mono Ba5.out.size))
  clear Na5 Pa5 Da5 Qa5 Ja5 Ba5
  have Lr6 := Lib.hid hv
  clear hv hb C6 hcap6
  obtain ⟨N_0, N_1, -⟩ := Nr6.out
  obtain ⟨P_0, P_1, -⟩ := Pr6.out
  obtain ⟨D_0, D_1, -⟩ := Dr6.out
  obtain ⟨Q_0, Q_1, -⟩ := Qr6.out
  obtain ⟨J_0, J_1, -⟩ := Jr6.out
  have E7 := Lib.hid (EQ.out _ lc6 _ Lr6.out)
  have J7 := Jr6.out.alloc (.cells #[.int .i64 7] 3)
  have HJ7 := Lib.hid J7
  have B7 := Lib.hid (Br6.out.trans ((low_lit _ (.cells #[.int .i64 7] 3)).mono Br6.out.size))
  clear J7
  go_wp2_with fail
  refine E7.out.mono ?_
  rintro e w9 ⟨rfl, hb⟩
  clear N_0 N_1 P_0 P_1 D_0 D_1 Q_0 Q_1 J_0 J_1
  obtain ⟨j0, j1, -⟩ := HJ7.out.below hb
  have B9 := Lib.hid (B7.out.trans (hb.mono B7.out.size))
  clear hb
  go_wp2
  go_ret
  exact ⟨rfl, B9.out⟩
end Go.Proofs.Ythebilmeehnkpaa.Ors
