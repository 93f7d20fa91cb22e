/-
  OrsetPuts, walked over what the laws take of the program.
-/
import Derived.Test.YthebilmeehnkpaaOrPutsP
import Derived.Test.YthebilmeehnkpaaOrRef4
import Derived.Test.YthebilmeehnkpaaGSorted
import Derived.Test.YthebilmeehnkpaaGMake
import Derived.Lib.QuietBelow
import Derived.Deep.RegionWith
import Derived.Deep.CutRange
import Derived.Deep.DeepCutAuto
namespace Go.Proofs.Ythebilmeehnkpaa.Ors
set_option linter.unusedVariables false
set_option linter.unusedSimpArgs false
open Go.RowKit Mem Gt
open Jump (Gave equalZ_c)
open Go.Sort (grow)

theorem new_in {many : Int} (h1 : ¬ many < 1) (h2 : ¬ 16 < many) : newE many = 0 ∧ newB many = ([], List.replicate many.toNat 0) := by
  have e : newE many = 0 := by unfold newE; rw [if_neg (by omega)]
  exact ⟨e, by unfold newB; rw [if_pos e]⟩
theorem new_out {many : Int} (h : many < 1 ∨ 16 < many) : newE many = 2 ∧ newB many = ([], []) := by
  have e : newE many = 2 := by unfold newE; rw [if_pos h]
  exact ⟨e, by unfold newB; rw [if_neg (by rw [e]; decide)]⟩
theorem hb_made (V : World) (m : Nat) (hm : m ≤ 16) : HB (V.alloc (.cells (Array.replicate m (.int .i64 0)) 3)) none (some ⟨V.heap.size, 0, none⟩) 0 0 m m ([], List.replicate m 0) :=
  ⟨rfl, by simp, by simp, ⟨Nat.le_refl _, by omega⟩, by omega, by omega, Reads.nil, (IC.new V m).reads, fun t h => by simp at h⟩
set_option maxRecDepth 100000 in
set_option maxHeartbeats 32000000 in
theorem puts_bad (hN : NewSpec) (hR : RightSpec) (hP : PutSpec) (hD : DropSpec) (hA : AllSpec) (H S : Option Addr) (nh ch ns cs : Nat) (b : Bg) (who elem many : Int) (W : World) (h : HB W H S nh ch ns cs b) (hw : (Lit.int .i64 who).wf = true) (hf : Fit elem) (hm : (Lit.int .i64 many).wf = true) (ok : okB b = false) :
    Calls Try.prog 3 #[.agg #[.slice H nh ch, .slice S ns cs], .int .i64 who, .int .i64 elem, .int .i64 many] W (Law.Yes W) := by
  have B0 := Lib.hid (low_lit W (.cells #[.slice H nh ch, .slice S ns cs] 25))
  have X0 := Lib.hid (HG.new h rfl)
  obtain ⟨en, hen⟩ : ∃ e, newE many = e := ⟨_, rfl⟩
  obtain ⟨nb, hnb⟩ : ∃ e, newB many = e := ⟨_, rfl⟩
  obtain ⟨nn, hnn⟩ : ∃ n, nb.1.length = n := ⟨_, rfl⟩
  obtain ⟨nm, hnm⟩ : ∃ n, nb.2.length = n := ⟨_, rfl⟩
  obtain ⟨f, hpf⟩ : ∃ e, putE b who = e := ⟨_, rfl⟩
  obtain ⟨p, hpb⟩ : ∃ e, putB b who elem = e := ⟨_, rfl⟩
  obtain ⟨pn, hpn⟩ : ∃ n, p.1.length = n := ⟨_, rfl⟩
  obtain ⟨pm, hpm⟩ : ∃ n, p.2.length = n := ⟨_, rfl⟩
  obtain ⟨g, hdg⟩ : ∃ e, okE b = e := ⟨_, rfl⟩
  obtain ⟨d, hdb⟩ : ∃ e, dropR b elem = e := ⟨_, rfl⟩
  obtain ⟨dn, hdn⟩ : ∃ n, d.1.length = n := ⟨_, rfl⟩
  obtain ⟨dm, hdm⟩ : ∃ n, d.2.length = n := ⟨_, rfl⟩
  obtain ⟨l, hl⟩ : ∃ e, allR b = e := ⟨_, rfl⟩
  obtain ⟨ln, hln⟩ : ∃ n, l.length = n := ⟨_, rfl⟩
  have HEN := Lib.hid hen
  have HNB := Lib.hid hnb
  have HNN := Lib.hid hnn
  have HNM := Lib.hid hnm
  have HPF := Lib.hid hpf
  have HPB := Lib.hid hpb
  have HPN := Lib.hid hpn
  have HPM := Lib.hid hpm
  have HDG := Lib.hid hdg
  have HDB := Lib.hid hdb
  have HDN := Lib.hid hdn
  have HDM := Lib.hid hdm
  have HL := Lib.hid hl
  have HLN := Lib.hid hln
  have HW := Lib.hid hw
  have HF := Lib.hid hf
  have HM := Lib.hid hm
  have OKR := Lib.hid ok
  obtain rfl : f = 1 := by rw [← HPF.out]; unfold putE; rw [if_pos ok]
  obtain rfl : g = 1 := by rw [← HDG.out]; unfold okE; rw [ok]; rfl
  obtain rfl : p = ([], []) := by rw [← HPB.out]; exact putB_no (by rw [HPF.out]; decide)
  obtain rfl : d = ([], []) := by rw [← HDB.out]; unfold dropR; rw [ok]; rfl
  obtain rfl : l = [] := by rw [← HL.out]; unfold allR; rw [ok]; rfl
  obtain rfl : 0 = pn := HPN.out
  obtain rfl : 0 = pm := HPM.out
  obtain rfl : 0 = dn := HDN.out
  obtain rfl : 0 = dm := HDM.out
  obtain rfl : 0 = ln := HLN.out
  clear ok
  clear h hen hnb hnn hnm hpf hpb hpn hpm hdg hdb hdn hdm hl hln hw hf hm
  go_enter Try.func3, Try.ntmps3
  have C1 := Lib.hid (hN many (W.alloc (.cells #[.slice H nh ch, .slice S ns cs] 25)) nb nn nm en HM.out HEN.out HNB.out HNN.out HNM.out)
  obtain ⟨X_0, X_1, -⟩ := X0.out
  go_wp2_with fail
  refine C1.out.mono ?_
  rintro e w1 ⟨H1, S1, hc1, sc1, rfl, hv, hb⟩
  clear X_0 X_1
  have Xr1 := Lib.hid (X0.out.below hb)
  have Br1 := Lib.hid (B0.out.trans (hb.mono B0.out.size))
  clear X0 B0
  have Xa1 := Lib.hid (Xr1.out.alloc (.cells #[.slice H1 nn hc1, .slice S1 nm sc1] 25))
  have Ba1 := Lib.hid (Br1.out.alloc Br1.out.size (.cells #[.slice H1 nn hc1, .slice S1 nm sc1] 25))
  have Na1 := Lib.hid (HG.new hv (rfl : w1.heap.size = w1.heap.size))
  clear hv hb C1 Xr1 Br1
  obtain ⟨X_0, X_1, -⟩ := Xa1.out
  obtain ⟨N_0, N_1, -⟩ := Na1.out
  have C2 := Lib.hid (hP _ _ _ _ _ _ _ who elem _ ([], []) 0 0 1 Xa1.out.2.2 HW.out HF.out HPF.out HPB.out HPN.out HPM.out)
  clear X_0 X_1 N_0 N_1
  obtain ⟨X_0, X_1, -⟩ := Xa1.out
  obtain ⟨N_0, N_1, -⟩ := Na1.out
  go_wp2_with fail
  refine C2.out.mono ?_
  rintro e w2 ⟨H2, S2, hc2, sc2, rfl, hv, hb⟩
  clear X_0 X_1 N_0 N_1
  have Xr2 := Lib.hid (Xa1.out.below hb)
  have Nr2 := Lib.hid (Na1.out.below hb)
  have Br2 := Lib.hid (Ba1.out.trans (hb.mono Ba1.out.size))
  clear Xa1 Na1 Ba1
  have Xa2 := Lib.hid (Xr2.out.alloc (.cells #[.slice H2 0 hc2, .slice S2 0 sc2] 25))
  have Na2 := Lib.hid (Nr2.out.alloc (.cells #[.slice H2 0 hc2, .slice S2 0 sc2] 25))
  have Ba2 := Lib.hid (Br2.out.alloc Br2.out.size (.cells #[.slice H2 0 hc2, .slice S2 0 sc2] 25))
  have Qa2 := Lib.hid (HG.new hv (rfl : w2.heap.size = w2.heap.size))
  clear hv hb C2 Xr2 Nr2 Br2
  obtain ⟨X_0, X_1, -⟩ := Xa2.out
  obtain ⟨N_0, N_1, -⟩ := Na2.out
  obtain ⟨Q_0, Q_1, -⟩ := Qa2.out
  have C3 := Lib.hid (hD _ _ _ _ _ _ _ elem _ ([], []) 0 0 1 Xa2.out.2.2 HF.out HDG.out HDB.out HDN.out HDM.out)
  clear X_0 X_1 N_0 N_1 Q_0 Q_1
  obtain ⟨X_0, X_1, -⟩ := Xa2.out
  obtain ⟨N_0, N_1, -⟩ := Na2.out
  obtain ⟨Q_0, Q_1, -⟩ := Qa2.out
  go_wp2_with fail
  refine C3.out.mono ?_
  rintro e w3 ⟨H3, S3, hc3, sc3, rfl, hv, hb⟩
  clear X_0 X_1 N_0 N_1 Q_0 Q_1
  have Xr3 := Lib.hid (Xa2.out.below hb)
  have Nr3 := Lib.hid (Na2.out.below hb)
  have Qr3 := Lib.hid (Qa2.out.below hb)
  have Br3 := Lib.hid (Ba2.out.trans (hb.mono Ba2.out.size))
  clear Xa2 Na2 Qa2 Ba2
  have Xa3 := Lib.hid (Xr3.out.alloc (.cells #[.slice H3 0 hc3, .slice S3 0 sc3] 25))
  have Na3 := Lib.hid (Nr3.out.alloc (.cells #[.slice H3 0 hc3, .slice S3 0 sc3] 25))
  have Qa3 := Lib.hid (Qr3.out.alloc (.cells #[.slice H3 0 hc3, .slice S3 0 sc3] 25))
  have Ba3 := Lib.hid (Br3.out.alloc Br3.out.size (.cells #[.slice H3 0 hc3, .slice S3 0 sc3] 25))
  have Da3 := Lib.hid (HG.new hv (rfl : w3.heap.size = w3.heap.size))
  clear hv hb C3 Xr3 Nr3 Qr3 Br3
  obtain ⟨X_0, X_1, -⟩ := Xa3.out
  obtain ⟨N_0, N_1, -⟩ := Na3.out
  obtain ⟨Q_0, Q_1, -⟩ := Qa3.out
  obtain ⟨D_0, D_1, -⟩ := Da3.out
  have C4 := Lib.hid (hA _ _ _ _ _ _ _ _ [] 0 1 Xa3.out.2.2 HDG.out HL.out HLN.out)
  go_wp2_with fail
  refine C4.out.mono ?_
  rintro e w4 ⟨L4, lc4, rfl, hcap4, hv, hb⟩
  clear X_0 X_1 N_0 N_1 Q_0 Q_1 D_0 D_1
  have Xr4 := Lib.hid (Xa3.out.below hb)
  have Nr4 := Lib.hid (Na3.out.below hb)
  have Qr4 := Lib.hid (Qa3.out.below hb)
  have Dr4 := Lib.hid (Da3.out.below hb)
  have Br4 := Lib.hid (Ba3.out.trans (hb.mono Ba3.out.size))
  clear Xa3 Na3 Qa3 Da3 Ba3
  have Lr4 := Lib.hid hv
  clear hv hb C4 hcap4
  obtain ⟨X_0, X_1, -⟩ := Xr4.out
  obtain ⟨N_0, N_1, -⟩ := Nr4.out
  obtain ⟨Q_0, Q_1, -⟩ := Qr4.out
  obtain ⟨D_0, D_1, -⟩ := Dr4.out
  obtain ⟨wq, hwq⟩ : ∃ wq, wq = w4 := ⟨_, rfl⟩
  clear hwq
  obtain ⟨r5, hr5⟩ : ∃ r, decide (many < 1 ∨ 16 < many) = r := ⟨_, rfl⟩
  have HR5 := Lib.hid hr5
  clear hr5
  go_upto_region 5 with fail
  go_cut [53] (fun v wx => v = .bool r5 ∧ wx = w4)
  case first => as_aux_lemma =>
    by_cases c1 : many < 1
    · obtain rfl : true = r5 := by rw [← HR5.out]; exact (decide_eq_true (.inl c1)).symm
      go_wp2
      go_meet
      exact ⟨rfl, rfl⟩
    · by_cases c2 : 16 < many
      · obtain rfl : true = r5 := by rw [← HR5.out]; exact (decide_eq_true (.inr c2)).symm
        go_wp2
        go_meet
        exact ⟨rfl, rfl⟩
      · obtain rfl : false = r5 := by rw [← HR5.out]; exact (decide_eq_false (by omega)).symm
        go_wp2
        go_meet
        exact ⟨rfl, rfl⟩
  obtain ⟨rfl, hwc⟩ := hcut
  rw [hwc]
  clear hwc wc
  go_upto_if 53 with fail
  go_cut [8] (fun v wx => v = .bool false ∧ Below w4.heap.size w4 wx)
  case first => as_aux_lemma =>
    cases r5 with
    | true =>
      obtain ⟨e1, e2⟩ := new_out (of_decide_eq_true HR5.out)
      obtain rfl : en = 2 := HEN.out.symm.trans e1
      obtain rfl : nb = ([], []) := HNB.out.symm.trans e2
      obtain rfl : 0 = nn := HNN.out
      obtain rfl : 0 = nm := HNM.out
      have SB := Lib.hid (samebag_c _ _ _ _ _ _ _ _ _ _ _ _ _ _ w4 Nr4.out.2.2 (hb_nil w4) true (decide_eq_true rfl))
      clear e1 e2
      go_wp2_with fail
      refine SB.out.mono ?_
      rintro e wz ⟨rfl, hb⟩
      have BZ := Lib.hid hb
      clear hb
      go_wp2
      go_meet
      exact ⟨rfl, BZ.out⟩
    | false =>
      obtain ⟨c1, c2⟩ : ¬ many < 1 ∧ ¬ 16 < many := by have := of_decide_eq_false HR5.out; omega
      obtain ⟨e1, e2⟩ := new_in c1 c2
      obtain ⟨m, rfl⟩ : ∃ m : Nat, many = m := ⟨many.toNat, by omega⟩
      rw [Int.toNat_natCast] at e2
      obtain rfl : en = 0 := HEN.out.symm.trans e1
      obtain rfl : nb = ([], List.replicate m 0) := HNB.out.symm.trans e2
      obtain rfl : 0 = nn := HNN.out
      obtain rfl : m = nm := by rw [← HNM.out]; simp
      have m16 : m ≤ 16 := by omega
      have hmk := make_ints m (by omega)
      have VV := Lib.hid (show Below w4.heap.size w4 ((w4.alloc (.cells (Array.replicate m (.int .i64 0)) 3)).drew) from below_drew (low_lit w4 _))
      have SB := Lib.hid (samebag_c _ _ _ _ _ _ _ _ _ _ _ _ _ _ _ (Nr4.out.2.2.below VV.out) (show HB ((w4.alloc (.cells (Array.replicate m (.int .i64 0)) 3)).drew) none (some ⟨w4.heap.size, 0, none⟩) 0 0 m m ([], List.replicate m 0) from (hb_made w4 m m16).below (below_drew (Below.refl _ _))) true (decide_eq_true rfl))
      clear e1 e2 m16
      go_wp2_with fail
      go_upto_region 8 with fail
      have SK := Lib.hid (show ∀ w, Below w4.heap.size w4 w → w.cell? ⟨w1.heap.size, 0, none⟩ = some (.slice H1 0 hc1) ∧ w.cell? ⟨w1.heap.size, 1, none⟩ = some (.slice S1 m sc1) from fun w hb => ⟨(Nr4.out.below hb).1, (Nr4.out.below hb).2.1⟩)
      have KA := Lib.hid (below_drew (Below.refl w4.heap.size w4))
      clear N_0 N_1
      go_region_held3 (fun w' => w'.cell? ⟨w1.heap.size, 0, none⟩ = some (.slice H1 0 hc1) ∧ w'.cell? ⟨w1.heap.size, 1, none⟩ = some (.slice S1 m sc1)) (first | exact SK.out _ VV.out | exact SK.out _ KA.out | exact SK.out _ BZ.out | go_keep)
        (first
          | (go_at_call 13; refine SB.out.mono ?_; rintro e wz ⟨rfl, hb⟩; have BZ := Lib.hid (VV.out.trans (hb.mono VV.out.size)); clear hb))
      all_goals
        go_wp2
        go_meet
        exact ⟨rfl, BZ.out⟩
  obtain ⟨rfl, hbc⟩ := hcut
  clear X_0 X_1 N_0 N_1 Q_0 Q_1 D_0 D_1
  have Xc := Lib.hid (Xr4.out.below hbc)
  have Nc := Lib.hid (Nr4.out.below hbc)
  have Qc := Lib.hid (Qr4.out.below hbc)
  have Dc := Lib.hid (Dr4.out.below hbc)
  have Lc := Lib.hid (Lr4.out.below hbc)
  have Bc := Lib.hid (Br4.out.trans (hbc.mono Br4.out.size))
  clear Xr4 Nr4 Qr4 Dr4 Lr4 Br4
  clear hbc
  clear Nc HEN HNB HNN HNM
  obtain ⟨X_0, X_1, -⟩ := Xc.out
  obtain ⟨Q_0, Q_1, -⟩ := Qc.out
  obtain ⟨D_0, D_1, -⟩ := Dc.out
  have hmm := @run_makeMap Try.prog
  have RR := Lib.hid (fun (V : World) (hb : Below wc.heap.size wc V) => hR H S nh ch ns cs b V false (Xc.out.2.2.below hb) OKR.out)
  have QQ := Lib.hid (fun (V : World) (hb : Below wc.heap.size wc V) => (show Calls Try.prog 15 #[.agg #[.slice H nh ch, .slice S ns cs]] V (Gave (.bool false) V) from (by have q := qright_c H S nh ch ns cs b V (Xc.out.2.2.below hb); rwa [OKR.out] at q)))
  have cX0 : ∀ d os, (grow (redrawn wc d) os).cell? _ = _ := fun d os => cell_regrown Xc.out.1 d os
  have cX1 : ∀ d os, (grow (redrawn wc d) os).cell? _ = _ := fun d os => cell_regrown Xc.out.2.1 d os
  go_wp2_with fail
  clear X_0 X_1 Q_0 Q_1 D_0 D_1
  go_upto_region 10 with fail
  refine wp_region_quiet_below (by kernel_rfl) (by kernel_rfl) ?_
  repeat (go_big_quiet_step (first
    | (go_at_call 14; refine Calls.regrown_of (RR.out _ (below_regrown _ _ _)))
    | (go_at_call 15; refine Calls.regrown_of (QQ.out _ (below_regrown _ _ _)))))
  refine wpQuiet_nil ?_
  intro _ hw'
  obtain ⟨⟨dd, os⟩, hw''⟩ := hw'
  obtain ⟨w10, hw10⟩ : ∃ w10, grow (redrawn wc dd) os = w10 := ⟨_, rfl⟩
  have hb10 : Below wc.heap.size wc w10 := hw10 ▸ below_regrown wc dd os
  subst hw''
  clear cX0 cX1
  simp only [hw10]
  clear hw10
  have QQ2 := Lib.hid (QQ.out w10 hb10)
  have Xt := Lib.hid (Xc.out.below hb10)
  have Qt := Lib.hid (Qc.out.below hb10)
  have Dt := Lib.hid (Dc.out.below hb10)
  have Lt := Lib.hid (Lc.out.below hb10)
  have Bt := Lib.hid (Bc.out.trans (hb10.mono Bc.out.size))
  clear Xc Qc Dc Lc Bc
  clear hb10 RR QQ
  obtain ⟨X_0, X_1, -⟩ := Xt.out
  obtain ⟨Q_0, Q_1, -⟩ := Qt.out
  obtain ⟨D_0, D_1, -⟩ := Dt.out
  go_wp2_with fail
  refine QQ2.out.mono ?_
  rintro e w11 ⟨rfl, hb⟩
  clear X_0 X_1 Q_0 Q_1 D_0 D_1
  have Xu := Lib.hid (Xt.out.below hb)
  have Qu := Lib.hid (Qt.out.below hb)
  have Du := Lib.hid (Dt.out.below hb)
  have Lu := Lib.hid (Lt.out.below hb)
  have Bu := Lib.hid (Bt.out.trans (hb.mono Bt.out.size))
  clear Xt Qt Dt Lt Bt
  clear hb QQ2
  obtain ⟨X_0, X_1, -⟩ := Xu.out
  obtain ⟨Q_0, Q_1, -⟩ := Qu.out
  obtain ⟨D_0, D_1, -⟩ := Du.out
  have SQ := Lib.hid (fun (V : World) (hb : Below w11.heap.size w11 V) => samebag_c _ _ _ _ _ _ _ _ _ _ _ _ _ _ V (Qu.out.2.2.below hb) (hb_nil V) true (decide_eq_true rfl))
  have SD := Lib.hid (fun (V : World) (hb : Below w11.heap.size w11 V) => samebag_c _ _ _ _ _ _ _ _ _ _ _ _ _ _ V (Du.out.2.2.below hb) (hb_nil V) true (decide_eq_true rfl))
  have BE := Lib.hid Bu.out
  have DX := Lib.hid Du.out
  have SQ1 := Lib.hid (SQ.out w11 (Below.refl _ _))
  go_wp2_with fail
  refine SQ1.out.mono ?_
  rintro e w12 ⟨rfl, hb⟩
  have SD2 := Lib.hid (SD.out w12 hb)
  have B12 := Lib.hid (BE.out.trans (hb.mono BE.out.size))
  have DX2 := Lib.hid (DX.out.below hb)
  clear hb SQ SD
  clear X_0 X_1 Q_0 Q_1 D_0 D_1
  obtain ⟨D_0, D_1, -⟩ := DX2.out
  go_wp2_with fail
  refine SD2.out.mono ?_
  rintro e w13 ⟨rfl, hb⟩
  have B13 := Lib.hid (B12.out.trans (hb.mono B12.out.size))
  clear hb D_0 D_1
  go_wp2
  go_ret
  exact ⟨rfl, B13.out⟩
theorem boolZ (w : World) : (zeroValue 4).run Try.prog w = .ok (.bool false) w := by kernel_rfl
set_option maxRecDepth 100000 in
set_option maxHeartbeats 32000000 in
theorem puts_ok (hN : NewSpec) (hR : RightSpec) (hP : PutSpec) (hD : DropSpec) (hA : AllSpec) (H S : Option Addr) (nh ch ns cs : Nat) (b : Bg) (who elem many : Int) (W : World) (h : HB W H S nh ch ns cs b) (hw : (Lit.int .i64 who).wf = true) (hf : Fit elem) (hm : (Lit.int .i64 many).wf = true) (ok : OkB b) :
    Calls Try.prog 3 #[.agg #[.slice H nh ch, .slice S ns cs], .int .i64 who, .int .i64 elem, .int .i64 many] W (Law.Yes W) := by
  have B0 := Lib.hid (low_lit W (.cells #[.slice H nh ch, .slice S ns cs] 25))
  have X0 := Lib.hid (HG.new h rfl)
  obtain ⟨en, hen⟩ : ∃ e, newE many = e := ⟨_, rfl⟩
  obtain ⟨nb, hnb⟩ : ∃ e, newB many = e := ⟨_, rfl⟩
  obtain ⟨nn, hnn⟩ : ∃ n, nb.1.length = n := ⟨_, rfl⟩
  obtain ⟨nm, hnm⟩ : ∃ n, nb.2.length = n := ⟨_, rfl⟩
  obtain ⟨f, hpf⟩ : ∃ e, putE b who = e := ⟨_, rfl⟩
  obtain ⟨p, hpb⟩ : ∃ e, putB b who elem = e := ⟨_, rfl⟩
  obtain ⟨pn, hpn⟩ : ∃ n, p.1.length = n := ⟨_, rfl⟩
  obtain ⟨pm, hpm⟩ : ∃ n, p.2.length = n := ⟨_, rfl⟩
  obtain ⟨g, hdg⟩ : ∃ e, okE b = e := ⟨_, rfl⟩
  obtain ⟨d, hdb⟩ : ∃ e, dropR b elem = e := ⟨_, rfl⟩
  obtain ⟨dn, hdn⟩ : ∃ n, d.1.length = n := ⟨_, rfl⟩
  obtain ⟨dm, hdm⟩ : ∃ n, d.2.length = n := ⟨_, rfl⟩
  obtain ⟨l, hl⟩ : ∃ e, allR b = e := ⟨_, rfl⟩
  obtain ⟨ln, hln⟩ : ∃ n, l.length = n := ⟨_, rfl⟩
  have HEN := Lib.hid hen
  have HNB := Lib.hid hnb
  have HNN := Lib.hid hnn
  have HNM := Lib.hid hnm
  have HPF := Lib.hid hpf
  have HPB := Lib.hid hpb
  have HPN := Lib.hid hpn
  have HPM := Lib.hid hpm
  have HDG := Lib.hid hdg
  have HDB := Lib.hid hdb
  have HDN := Lib.hid hdn
  have HDM := Lib.hid hdm
  have HL := Lib.hid hl
  have HLN := Lib.hid hln
  have HW := Lib.hid hw
  have HF := Lib.hid hf
  have HM := Lib.hid hm
  have OKR := Lib.hid (okB_iff.2 ok)
  obtain rfl : g = 0 := by rw [← HDG.out]; exact okE_zero.2 ok
  obtain rfl : d = dropB b elem := by rw [← HDB.out]; exact dropR_of ok
  obtain rfl : l = elems b := by rw [← HL.out]; exact allR_of ok
  have OK := Lib.hid ok
  have LH := Lib.hid h.lenH
  have LS := Lib.hid h.lenS
  have FH := Lib.hid h.fit
  have h400 : nh ≤ 400 := by rw [← h.lenH]; exact ok.many
  have h16 : ns ≤ 16 := by rw [← h.lenS]; exact ok.wide
  have hl400 : ln ≤ 400 := by rw [← HLN.out]; exact Nat.le_trans (elems_len b) ok.many
  have CS := Lib.hid h.capS
  clear ok
  clear h hen hnb hnn hnm hpf hpb hpn hpm hdg hdb hdn hdm hl hln hw hf hm
  go_enter Try.func3, Try.ntmps3
  have C1 := Lib.hid (hN many (W.alloc (.cells #[.slice H nh ch, .slice S ns cs] 25)) nb nn nm en HM.out HEN.out HNB.out HNN.out HNM.out)
  obtain ⟨X_0, X_1, -⟩ := X0.out
  go_wp2_with fail
  refine C1.out.mono ?_
  rintro e w1 ⟨H1, S1, hc1, sc1, rfl, hv, hb⟩
  clear X_0 X_1
  have Xr1 := Lib.hid (X0.out.below hb)
  have Br1 := Lib.hid (B0.out.trans (hb.mono B0.out.size))
  clear X0 B0
  have Xa1 := Lib.hid (Xr1.out.alloc (.cells #[.slice H1 nn hc1, .slice S1 nm sc1] 25))
  have Ba1 := Lib.hid (Br1.out.alloc Br1.out.size (.cells #[.slice H1 nn hc1, .slice S1 nm sc1] 25))
  have Na1 := Lib.hid (HG.new hv (rfl : w1.heap.size = w1.heap.size))
  clear hv hb C1 Xr1 Br1
  obtain ⟨X_0, X_1, -⟩ := Xa1.out
  obtain ⟨N_0, N_1, -⟩ := Na1.out
  have C2 := Lib.hid (hP _ _ _ _ _ _ _ who elem _ p pn pm f Xa1.out.2.2 HW.out HF.out HPF.out HPB.out HPN.out HPM.out)
  clear X_0 X_1 N_0 N_1
  obtain ⟨X_0, X_1, -⟩ := Xa1.out
  obtain ⟨N_0, N_1, -⟩ := Na1.out
  go_wp2_with fail
  refine C2.out.mono ?_
  rintro e w2 ⟨H2, S2, hc2, sc2, rfl, hv, hb⟩
  clear X_0 X_1 N_0 N_1
  have Xr2 := Lib.hid (Xa1.out.below hb)
  have Nr2 := Lib.hid (Na1.out.below hb)
  have Br2 := Lib.hid (Ba1.out.trans (hb.mono Ba1.out.size))
  clear Xa1 Na1 Ba1
  have Xa2 := Lib.hid (Xr2.out.alloc (.cells #[.slice H2 pn hc2, .slice S2 pm sc2] 25))
  have Na2 := Lib.hid (Nr2.out.alloc (.cells #[.slice H2 pn hc2, .slice S2 pm sc2] 25))
  have Ba2 := Lib.hid (Br2.out.alloc Br2.out.size (.cells #[.slice H2 pn hc2, .slice S2 pm sc2] 25))
  have Qa2 := Lib.hid (HG.new hv (rfl : w2.heap.size = w2.heap.size))
  clear hv hb C2 Xr2 Nr2 Br2
  obtain ⟨X_0, X_1, -⟩ := Xa2.out
  obtain ⟨N_0, N_1, -⟩ := Na2.out
  obtain ⟨Q_0, Q_1, -⟩ := Qa2.out
  have C3 := Lib.hid (hD _ _ _ _ _ _ _ elem _ (dropB b elem) dn dm 0 Xa2.out.2.2 HF.out HDG.out HDB.out HDN.out HDM.out)
  clear X_0 X_1 N_0 N_1 Q_0 Q_1
  obtain ⟨X_0, X_1, -⟩ := Xa2.out
  obtain ⟨N_0, N_1, -⟩ := Na2.out
  obtain ⟨Q_0, Q_1, -⟩ := Qa2.out
  go_wp2_with fail
  refine C3.out.mono ?_
  rintro e w3 ⟨H3, S3, hc3, sc3, rfl, hv, hb⟩
  clear X_0 X_1 N_0 N_1 Q_0 Q_1
  have Xr3 := Lib.hid (Xa2.out.below hb)
  have Nr3 := Lib.hid (Na2.out.below hb)
  have Qr3 := Lib.hid (Qa2.out.below hb)
  have Br3 := Lib.hid (Ba2.out.trans (hb.mono Ba2.out.size))
  clear Xa2 Na2 Qa2 Ba2
  have Xa3 := Lib.hid (Xr3.out.alloc (.cells #[.slice H3 dn hc3, .slice S3 dm sc3] 25))
  have Na3 := Lib.hid (Nr3.out.alloc (.cells #[.slice H3 dn hc3, .slice S3 dm sc3] 25))
  have Qa3 := Lib.hid (Qr3.out.alloc (.cells #[.slice H3 dn hc3, .slice S3 dm sc3] 25))
  have Ba3 := Lib.hid (Br3.out.alloc Br3.out.size (.cells #[.slice H3 dn hc3, .slice S3 dm sc3] 25))
  have Da3 := Lib.hid (HG.new hv (rfl : w3.heap.size = w3.heap.size))
  clear hv hb C3 Xr3 Nr3 Qr3 Br3
  obtain ⟨X_0, X_1, -⟩ := Xa3.out
  obtain ⟨N_0, N_1, -⟩ := Na3.out
  obtain ⟨Q_0, Q_1, -⟩ := Qa3.out
  obtain ⟨D_0, D_1, -⟩ := Da3.out
  have C4 := Lib.hid (hA _ _ _ _ _ _ _ _ (elems b) ln 0 Xa3.out.2.2 HDG.out HL.out HLN.out)
  go_wp2_with fail
  refine C4.out.mono ?_
  rintro e w4 ⟨L4, lc4, rfl, hcap4, hv, hb⟩
  clear X_0 X_1 N_0 N_1 Q_0 Q_1 D_0 D_1
  have Xr4 := Lib.hid (Xa3.out.below hb)
  have Nr4 := Lib.hid (Na3.out.below hb)
  have Qr4 := Lib.hid (Qa3.out.below hb)
  have Dr4 := Lib.hid (Da3.out.below hb)
  have Br4 := Lib.hid (Ba3.out.trans (hb.mono Ba3.out.size))
  clear Xa3 Na3 Qa3 Da3 Ba3
  have Lr4 := Lib.hid hv
  clear hv hb C4 hcap4
  obtain ⟨X_0, X_1, -⟩ := Xr4.out
  obtain ⟨N_0, N_1, -⟩ := Nr4.out
  obtain ⟨Q_0, Q_1, -⟩ := Qr4.out
  obtain ⟨D_0, D_1, -⟩ := Dr4.out
  obtain ⟨wq, hwq⟩ : ∃ wq, wq = w4 := ⟨_, rfl⟩
  clear hwq
  obtain ⟨r5, hr5⟩ : ∃ r, decide (many < 1 ∨ 16 < many) = r := ⟨_, rfl⟩
  have HR5 := Lib.hid hr5
  clear hr5
  go_upto_region 5 with fail
  go_cut [53] (fun v wx => v = .bool r5 ∧ wx = w4)
  case first => as_aux_lemma =>
    by_cases c1 : many < 1
    · obtain rfl : true = r5 := by rw [← HR5.out]; exact (decide_eq_true (.inl c1)).symm
      go_wp2
      go_meet
      exact ⟨rfl, rfl⟩
    · by_cases c2 : 16 < many
      · obtain rfl : true = r5 := by rw [← HR5.out]; exact (decide_eq_true (.inr c2)).symm
        go_wp2
        go_meet
        exact ⟨rfl, rfl⟩
      · obtain rfl : false = r5 := by rw [← HR5.out]; exact (decide_eq_false (by omega)).symm
        go_wp2
        go_meet
        exact ⟨rfl, rfl⟩
  obtain ⟨rfl, hwc⟩ := hcut
  rw [hwc]
  clear hwc wc
  go_upto_if 53 with fail
  go_cut [8] (fun v wx => v = .bool false ∧ Below w4.heap.size w4 wx)
  case first => as_aux_lemma =>
    cases r5 with
    | true =>
      obtain ⟨e1, e2⟩ := new_out (of_decide_eq_true HR5.out)
      obtain rfl : en = 2 := HEN.out.symm.trans e1
      obtain rfl : nb = ([], []) := HNB.out.symm.trans e2
      obtain rfl : 0 = nn := HNN.out
      obtain rfl : 0 = nm := HNM.out
      have SB := Lib.hid (samebag_c _ _ _ _ _ _ _ _ _ _ _ _ _ _ w4 Nr4.out.2.2 (hb_nil w4) true (decide_eq_true rfl))
      clear e1 e2
      go_wp2_with fail
      refine SB.out.mono ?_
      rintro e wz ⟨rfl, hb⟩
      have BZ := Lib.hid hb
      clear hb
      go_wp2
      go_meet
      exact ⟨rfl, BZ.out⟩
    | false =>
      obtain ⟨c1, c2⟩ : ¬ many < 1 ∧ ¬ 16 < many := by have := of_decide_eq_false HR5.out; omega
      obtain ⟨e1, e2⟩ := new_in c1 c2
      obtain ⟨m, rfl⟩ : ∃ m : Nat, many = m := ⟨many.toNat, by omega⟩
      rw [Int.toNat_natCast] at e2
      obtain rfl : en = 0 := HEN.out.symm.trans e1
      obtain rfl : nb = ([], List.replicate m 0) := HNB.out.symm.trans e2
      obtain rfl : 0 = nn := HNN.out
      obtain rfl : m = nm := by rw [← HNM.out]; simp
      have m16 : m ≤ 16 := by omega
      have hmk := make_ints m (by omega)
      have VV := Lib.hid (show Below w4.heap.size w4 ((w4.alloc (.cells (Array.replicate m (.int .i64 0)) 3)).drew) from below_drew (low_lit w4 _))
      have SB := Lib.hid (samebag_c _ _ _ _ _ _ _ _ _ _ _ _ _ _ _ (Nr4.out.2.2.below VV.out) (show HB ((w4.alloc (.cells (Array.replicate m (.int .i64 0)) 3)).drew) none (some ⟨w4.heap.size, 0, none⟩) 0 0 m m ([], List.replicate m 0) from (hb_made w4 m m16).below (below_drew (Below.refl _ _))) true (decide_eq_true rfl))
      clear e1 e2 m16
      go_wp2_with fail
      go_upto_region 8 with fail
      have SK := Lib.hid (show ∀ w, Below w4.heap.size w4 w → w.cell? ⟨w1.heap.size, 0, none⟩ = some (.slice H1 0 hc1) ∧ w.cell? ⟨w1.heap.size, 1, none⟩ = some (.slice S1 m sc1) from fun w hb => ⟨(Nr4.out.below hb).1, (Nr4.out.below hb).2.1⟩)
      have KA := Lib.hid (below_drew (Below.refl w4.heap.size w4))
      clear N_0 N_1
      go_region_held3 (fun w' => w'.cell? ⟨w1.heap.size, 0, none⟩ = some (.slice H1 0 hc1) ∧ w'.cell? ⟨w1.heap.size, 1, none⟩ = some (.slice S1 m sc1)) (first | exact SK.out _ VV.out | exact SK.out _ KA.out | exact SK.out _ BZ.out | go_keep)
        (first
          | (go_at_call 13; refine SB.out.mono ?_; rintro e wz ⟨rfl, hb⟩; have BZ := Lib.hid (VV.out.trans (hb.mono VV.out.size)); clear hb))
      all_goals
        go_wp2
        go_meet
        exact ⟨rfl, BZ.out⟩
  obtain ⟨rfl, hbc⟩ := hcut
  clear X_0 X_1 N_0 N_1 Q_0 Q_1 D_0 D_1
  have Xc := Lib.hid (Xr4.out.below hbc)
  have Nc := Lib.hid (Nr4.out.below hbc)
  have Qc := Lib.hid (Qr4.out.below hbc)
  have Dc := Lib.hid (Dr4.out.below hbc)
  have Lc := Lib.hid (Lr4.out.below hbc)
  have Bc := Lib.hid (Br4.out.trans (hbc.mono Br4.out.size))
  clear Xr4 Nr4 Qr4 Dr4 Lr4 Br4
  clear hbc
  clear Nc HEN HNB HNN HNM
  obtain ⟨X_0, X_1, -⟩ := Xc.out
  obtain ⟨Q_0, Q_1, -⟩ := Qc.out
  obtain ⟨D_0, D_1, -⟩ := Dc.out
  have hmm := @run_makeMap Try.prog
  have RR := Lib.hid (fun (V : World) (hb : Below wc.heap.size wc V) => hR H S nh ch ns cs b V true (Xc.out.2.2.below hb) OKR.out)
  have QQ := Lib.hid (fun (V : World) (hb : Below wc.heap.size wc V) => (show Calls Try.prog 15 #[.agg #[.slice H nh ch, .slice S ns cs]] V (Gave (.bool true) V) from (by have q := qright_c H S nh ch ns cs b V (Xc.out.2.2.below hb); rwa [OKR.out] at q)))
  have cX0 : ∀ d os, (grow (redrawn wc d) os).cell? _ = _ := fun d os => cell_regrown Xc.out.1 d os
  have cX1 : ∀ d os, (grow (redrawn wc d) os).cell? _ = _ := fun d os => cell_regrown Xc.out.2.1 d os
  go_wp2_with fail
  clear X_0 X_1 Q_0 Q_1 D_0 D_1
  go_upto_region 10 with fail
  refine wp_region_quiet_below (by kernel_rfl) (by kernel_rfl) ?_
  repeat (go_big_quiet_step (first
    | (go_at_call 14; refine Calls.regrown_of (RR.out _ (below_regrown _ _ _)))
    | (go_at_call 15; refine Calls.regrown_of (QQ.out _ (below_regrown _ _ _)))))
  refine wpQuiet_nil ?_
  intro _ hw'
  obtain ⟨⟨dd, os⟩, hw''⟩ := hw'
  obtain ⟨w10, hw10⟩ : ∃ w10, grow (redrawn wc dd) os = w10 := ⟨_, rfl⟩
  have hb10 : Below wc.heap.size wc w10 := hw10 ▸ below_regrown wc dd os
  subst hw''
  clear cX0 cX1
  simp only [hw10]
  clear hw10
  have QQ2 := Lib.hid (QQ.out w10 hb10)
  have Xt := Lib.hid (Xc.out.below hb10)
  have Qt := Lib.hid (Qc.out.below hb10)
  have Dt := Lib.hid (Dc.out.below hb10)
  have Lt := Lib.hid (Lc.out.below hb10)
  have Bt := Lib.hid (Bc.out.trans (hb10.mono Bc.out.size))
  clear Xc Qc Dc Lc Bc
  clear hb10 RR QQ
  obtain ⟨X_0, X_1, -⟩ := Xt.out
  obtain ⟨Q_0, Q_1, -⟩ := Qt.out
  obtain ⟨D_0, D_1, -⟩ := Dt.out
  go_wp2_with fail
  refine QQ2.out.mono ?_
  rintro e w11 ⟨rfl, hb⟩
  clear X_0 X_1 Q_0 Q_1 D_0 D_1
  have Xu := Lib.hid (Xt.out.below hb)
  have Qu := Lib.hid (Qt.out.below hb)
  have Du := Lib.hid (Dt.out.below hb)
  have Lu := Lib.hid (Lt.out.below hb)
  have Bu := Lib.hid (Bt.out.trans (hb.mono Bt.out.size))
  clear Xt Qt Dt Lt Bt
  clear hb QQ2
  obtain ⟨X_0, X_1, -⟩ := Xu.out
  obtain ⟨Q_0, Q_1, -⟩ := Qu.out
  obtain ⟨D_0, D_1, -⟩ := Du.out
  obtain ⟨gR, hgR⟩ : ∃ g, w11.heap.size = g := ⟨_, rfl⟩
  obtain ⟨W2, hW2⟩ : ∃ W2, (w11.alloc (.cells #[.slice none 0 0, .slice S ns cs] 25)).alloc (.map #[] 0) = W2 := ⟨_, rfl⟩
  have SZ2 := Lib.hid (show W2.heap.size = gR + 2 by rw [← hW2, ← hgR]; simp)
  have B2 := Lib.hid (show Below gR w11 W2 from hW2 ▸ hgR ▸ (low_lit w11 (.cells #[.slice none 0 0, .slice S ns cs] 25)).alloc (by simp) _)
  have K2 := Lib.hid (show Known W2 gR tB #[.slice none 0 0, .slice S ns cs] from hW2 ▸ hgR ▸ (Known.made w11 tB _).alloc _)
  have M2 := Lib.hid (show GMap W2 (gR + 1) (.bool false) (inK []) [] from by
    have := (GMap.made (w11.alloc (.cells #[.slice none 0 0, .slice S ns cs] 25)) (.bool false)).congr (g := inK []) (fun x => by simp [inK])
    rw [hW2] at this
    simpa [hgR] using this)
  have HGR := Lib.hid hgR
  have XX := Lib.hid Xu.out
  have QX := Lib.hid Qu.out
  have DX := Lib.hid Du.out
  have LX := Lib.hid Lu.out
  have BE := Lib.hid Bu.out
  clear Xu Qu Du Lu Bu
  obtain ⟨z0, z1, -⟩ := XX.out.below (by rw [HGR.out]; exact B2.out)
  go_wp2_with fail
  clear hmm hW2 hgR z0 z1
  clear X_0 X_1 Q_0 Q_1 D_0 D_1
  go_loopw [114] (fun i wr => ∃ (k m c : Nat) (A : Option Addr), k ≤ nh ∧ i = .int .i64 k ∧ GMap wr (gR + 1) (.bool false) (inK (kset (els (b.1.take k)))) (kset (els (b.1.take k))) ∧ Known wr gR tB #[.slice A m c, .slice S ns cs] ∧ Tab tgE wr (gR + 2) tT (.slice A m c) ((b.1.take k).filter (isNot elem)) ∧ ((b.1.take k).filter (isNot elem)).length = m ∧ Below gR w11 wr) (fun i _ => nh - (Go.RowKit.intOf i).toNat)
  case atStart => exact ⟨0, 0, 0, none, by omega, rfl, by simpa [kset, els] using M2.out, K2.out, by simpa using Tab.nil _ _ _, by simp, B2.out⟩
  case round =>
    obtain ⟨k, m, c, A, hk, rfl, hM, hK, hT, hm, hB⟩ := hrel
    have MM := Lib.hid hM
    have KK := Lib.hid hK
    have TT := Lib.hid hT
    have HMM := Lib.hid hm
    have BB := Lib.hid hB
    have XR := Lib.hid (XX.out.below (by rw [HGR.out]; exact hB))
    clear hM hK hT hm
    by_cases hlt : k < nh
    · as_aux_lemma =>
      obtain ⟨⟨t0, t1, t2⟩, ht⟩ : ∃ x, b.1[k]? = some x := ⟨_, List.getElem?_eq_getElem (by rw [LH.out]; exact hlt)⟩
      obtain ⟨b1, o1, hH1, _, x0, x1, x2⟩ := tg_at XR.out.2.2.has ht
      obtain ⟨d0, d1, d2⟩ := box_tg (w := wr) (t0, t1, t2)
      obtain ⟨w20, hw20⟩ : ∃ V, wr.alloc (.cells #[.int .i64 t0, .int .i64 t1, .int .i64 t2] tT) = V := ⟨_, rfl⟩
      have MA := Lib.hid (show GMap w20 (gR + 1) _ _ _ from hw20 ▸ MM.out.alloc (.cells #[.int .i64 t0, .int .i64 t1, .int .i64 t2] tT))
      have KA := Lib.hid (show Known w20 gR tB _ from hw20 ▸ KK.out.alloc (.cells #[.int .i64 t0, .int .i64 t1, .int .i64 t2] tT))
      have TA := Lib.hid (show Tab tgE w20 (gR + 2) tT _ _ from hw20 ▸ TT.out.alloc (.cells #[.int .i64 t0, .int .i64 t1, .int .i64 t2] tT))
      have DA := Lib.hid (show Known w20 wr.heap.size tT #[.int .i64 t0, .int .i64 t1, .int .i64 t2] from hw20 ▸ Known.made wr tT _)
      have SZW := Lib.hid (show gR + 2 ≤ wr.heap.size ∧ w20.heap.size = wr.heap.size + 1 from ⟨by have := MM.out.lt; omega, by rw [← hw20]; simp⟩)
      have BA := Lib.hid (show Below gR w11 w20 from hw20 ▸ hB.alloc (by have := SZW.out.1; omega) _)
      rw [hw20] at d0 d1 d2
      have ES := Lib.hid (els_step ht)
      have DS := Lib.hid (drop_step (elem := elem) ht)
      have WF := Lib.hid (wf_of (FH.out _ (List.mem_of_getElem? ht)))
      have KL := Lib.hid (show (kset (els (b.1.take k))).length < 1000000 by
        have h1 := kset_le (els (b.1.take k))
        have h2 : (els (b.1.take k)).length ≤ 400 := by unfold els; rw [List.length_map, List.length_take]; omega
        omega)
      have ML := Lib.hid (show m ≤ 400 by
        have h1 : ((b.1.take k).filter (isNot elem)).length ≤ (b.1.take k).length := List.length_filter_le _ _
        rw [HMM.out, List.length_take] at h1
        omega)
      have i1 : (k : Int) < (nh : Int) := by omega
      simp only at x0 x1 x2 d0 d1 d2 ES DS WF
      subst hH1
      clear ht hB
      obtain ⟨ks, hks⟩ : ∃ ks, kset (els (b.1.take k)) = ks := ⟨_, rfl⟩
      obtain ⟨fl, hfl⟩ : ∃ fl, (b.1.take k).filter (isNot elem) = fl := ⟨_, rfl⟩
      rw [hks] at MA KL ES
      rw [hfl] at TA HMM DS
      clear hks hfl MM KK TT BB
      by_cases e : t2 = elem
      · have n1 : (t2 != elem) = false := by simp [e]
        rw [if_pos e, List.append_nil] at DS
        clear e
        go_wp2_with (refine wpList_update_m Try.underlying35 rfl (.tmp 118) (.tmp 120) (.const (.bool true)) rfl MA.out KL.out t2 WF.out rfl rfl (.bool true) rfl ?_; intro V KV GV; have d2' := (known_grown DA.out GV.out (fun h => by injection h with h; have := SZW.out.1; omega)).cell 2; simp at d2')
        have MV := Lib.hid (KV.out.congr (inK_step ks t2))
        have KW := Lib.hid (known_grown KA.out GV.out (fun h => by injection h with h; omega))
        have TV := Lib.hid (TA.out.kept GV.out (by
          cases hv : (Value.slice A m c).ownBlock with
          | none => exact .inl rfl
          | some q => exact .inr (fun h => by have := (TA.out.lt q hv).1; injection h with h; omega)))
        have BV := Lib.hid (BA.out.grown GV.out (by have := SZW.out; omega) (fun q hq => by injection hq with hq; omega))
        go_roundw
        case rel => exact ⟨k + 1, m, c, A, by have := SZW.out; omega, by go_num, by rw [ES.out]; exact MV.out, KW.out, by rw [DS.out]; exact TV.out, by rw [DS.out]; exact HMM.out, BV.out⟩
        case measure => simp [Go.RowKit.intOf]; omega
      · have n1 : (t2 != elem) = true := by simp [e]
        rw [if_neg e] at DS
        clear e
        go_wp2_with (first
          | (refine wpList_update_m Try.underlying35 rfl (.tmp 118) (.tmp 120) (.const (.bool true)) rfl MA.out KL.out t2 WF.out rfl rfl (.bool true) rfl ?_; intro V KV GV; have DV := Lib.hid (known_grown DA.out GV.out (fun h => by injection h with h; have := SZW.out.1; omega)); have d0' := DV.out.cell 0; have d1' := DV.out.cell 1; have d2' := DV.out.cell 2; simp at d0' d1' d2'; have MV := Lib.hid (KV.out.congr (inK_step ks t2)); have KW := Lib.hid (known_grown KA.out GV.out (fun h => by injection h with h; omega)); have k0' := KW.out.cell 0; simp at k0'; have TV := Lib.hid (TA.out.kept GV.out (by (cases hv : (Value.slice A m c).ownBlock with | none => exact .inl rfl | some q => exact .inr (fun h => by have := (TA.out.lt q hv).1; injection h with h; omega)))); have BV := Lib.hid (BA.out.grown GV.out (by have := SZW.out; omega) (fun q hq => by injection hq with hq; omega)); have SZV := Lib.hid (show gR + 2 ≤ V.heap.size by have h1 := GV.out.size; have h2 := SZW.out; omega); have KL8 := Lib.hid (KW.out.alloc (.cells #[.int .i64 t0, .int .i64 t1, .int .i64 t2] tT)); have k08 := KL8.out.cell 0; simp at k08)
          | (refine wpList_append_g (E := tgE) elTg rfl _ _ (by rfl) (t0, t1, t2) rfl (by decide) (by rfl) (by rfl) TV.out HMM.out (by unfold maxLen; have := ML.out; omega) (by have := ML.out; omega) SZV.out ?_; intro A8 c8 w8 T8 G8 O8; obtain ⟨g8, rfl, -, -, -⟩ := Tab.head T8.out (by simp); have KB := Lib.hid (known_grown KL8.out G8.out (fun h => by have := (TV.out.lt _ h.symm).1; omega)); have c80 := KB.out.cell 0; have f80 := KB.out.free 0; simp at c80))
        go_roundw
        case rel =>
          refine ⟨k + 1, m + 1, c8, some ⟨g8, 0, none⟩, by have := SZW.out; omega, by go_num, ?_, by simpa using KB.out.put 0 (.slice (some ⟨g8, 0, none⟩) (m + 1) c8), ?_, ?_, ?_⟩
          · rw [ES.out]
            refine ((MV.out.alloc _).kept G8.out ?_).setCell (by show gR + 1 ≠ gR; omega) _
            intro h
            have := (TV.out.lt _ h.symm).1
            omega
          · rw [DS.out]
            exact T8.out.off (fun q hq => by have := (T8.out.lt q hq).1; show q ≠ gR; omega) _
          · rw [DS.out, List.length_append, HMM.out]; rfl
          · exact ((TV.out.alloc _).below G8.out (BV.out.alloc (by have := SZV.out; omega) _) (by omega) (by simp; have := SZV.out; omega)).setCell (Nat.le_refl _) _
        case measure => simp [Go.RowKit.intOf]; omega
    · obtain rfl : nh = k := by omega
      rw [List.take_of_length_le (Nat.le_of_eq LH.out)] at MM TT HMM
      obtain ⟨wa, rfl⟩ : ∃ wa : World, wa = wr := ⟨_, rfl⟩
      have hB2 : Below w11.heap.size w11 wa := by rw [HGR.out]; exact hB
      have B23 := Lib.hid (BE.out.trans (hB2.mono BE.out.size))
      have HR := Lib.hid (show HB wa A S m c ns cs (dropB b elem) from by
        obtain ⟨A1, c1, e1, p1, p2⟩ := TT.out.form
        injection e1 with _ e5 e1
        subst e1
        exact ⟨HMM.out, LS.out, ⟨by omega, by unfold maxLen at p2; omega⟩, CS.out, by have h1 : (b.1.filter (isNot elem)).length ≤ b.1.length := List.length_filter_le _ _; have := HMM.out; have := LH.out; omega, by omega, TT.out.reads, XR.out.2.2.saw, fun t ht => FH.out t (List.mem_filter.1 ht).1⟩)
      have DA := Lib.hid (DX.out.below hB2)
      have QA := Lib.hid (QX.out.below hB2)
      have LA := Lib.hid (LX.out.below hB2)
      have SB := Lib.hid (samebag_c _ _ _ _ _ _ _ _ _ _ _ _ _ _ wa DA.out.2.2 HR.out true (decide_eq_true rfl))
      obtain ⟨r0, r1, -⟩ := DA.out
      have r2 := KK.out.cell 0
      have r3 := KK.out.cell 1
      simp at r2 r3
      clear hB hB2 HR
      go_wp2_with fail
      refine SB.out.mono ?_
      rintro e w23 ⟨rfl, hb⟩
      have M23 := Lib.hid (MM.out.later hb)
      have Q23 := Lib.hid (QA.out.below hb)
      have X23 := Lib.hid (XR.out.below hb)
      have L23 := Lib.hid (LA.out.below hb)
      have BB23 := Lib.hid (B23.out.trans (hb.mono B23.out.size))
      have mt := Try.underlying35
      have hlen : ∀ ty, (Builtin.len_ #[35] ty #[.map (some (gR + 1))]).run Try.prog w23 = .ok (.int .i64 (ln : Int)) w23 := fun ty => M23.out.len mt ty ln (by rw [kset_len]; exact HLN.out)
      have n1 : ((ln : Int) != (ln : Int)) = false := by simp
      have IS := Lib.hid (sortedI_c L4 (elems b) ln lc4 w23 HLN.out (by omega) L23.out (elems_rise b))
      clear hb r0 r1 r2 r3 SB MM TT KK QA XR LA DA B23
      go_wp2_with fail
      refine IS.out.mono ?_
      rintro e w24 ⟨rfl, hd⟩
      have M24 := Lib.hid (M23.out.later (hd.below _))
      have Q24 := Lib.hid (Q23.out.below (hd.below _))
      have X24 := Lib.hid (X23.out.below (hd.below _))
      have L24 := Lib.hid (L23.out.below (hd.below _))
      have B24 := Lib.hid (BB23.out.trans (hd.below _))
      clear hd hlen n1 IS M23 Q23 X23 L23 BB23
      go_wp2_with fail
      go_loopw [158] (fun i wr => ∃ q : Nat, q ≤ ln ∧ i = .int .i64 q ∧ wr = w24) (fun i _ => ln - (Go.RowKit.intOf i).toNat)
      case atStart => exact ⟨0, by omega, rfl, rfl⟩
      case round =>
        obtain ⟨q, hq, rfl, rfl⟩ := hrel
        by_cases hlq : q < ln
        · as_aux_lemma =>
          obtain ⟨x, hx⟩ : ∃ x, (elems b)[q]? = some x := ⟨_, List.getElem?_eq_getElem (by rw [HLN.out]; exact hlq)⟩
          obtain ⟨b2, o2, hL, _, y0⟩ := int_at L24.out hx
          have hxe := List.mem_of_getElem? hx
          have WX := Lib.hid (show (Lit.int .i64 x).wf = true from by
            obtain ⟨t, ht, rfl⟩ := elems_mem.1 hxe
            exact wf_of (FH.out t ht))
          have IN := Lib.hid (show inK (kset (els b.1)) x = .bool true from by
            unfold inK
            rw [decide_eq_true (show x ∈ kset (els b.1) from mem_kset.2 (mem_setOf.1 hxe))])
          have i1 : (q : Int) < (ln : Int) := by omega
          subst hL
          clear hx hxe
          go_wp2_with (refine wpList_lookup_m mt (boolZ _) rfl (.tmp 162) (.tmp 163) rfl M24.out x WX.out rfl rfl (.bool true) IN.out ?_)
          go_roundw
          case rel => exact ⟨q + 1, by omega, by go_num, trivial⟩
          case measure => simp [Go.RowKit.intOf]; omega
        · obtain rfl : q = ln := by omega
          clear hlq hq M24 L24
          obtain ⟨w24_, rfl⟩ : ∃ w : World, w = wr := ⟨_, rfl⟩
          obtain ⟨s0, s1, hbx⟩ := X24.out
          have HBX := Lib.hid hbx
          obtain ⟨u0, u1, -⟩ := Q24.out
          clear hbx
          by_cases c1 : who < 0 ∨ (ns : Int) ≤ who
          · as_aux_lemma =>
            obtain rfl : f = 2 := by rw [← HPF.out]; unfold putE; rw [if_neg (by rw [OKR.out]; decide), if_pos (by rw [LS.out]; exact c1)]
            obtain rfl : p = ([], []) := by rw [← HPB.out]; exact putB_no (by rw [HPF.out]; decide)
            obtain rfl : 0 = pn := HPN.out
            obtain rfl : 0 = pm := HPM.out
            have SQ := Lib.hid (samebag_c _ _ _ _ _ _ _ _ _ _ _ _ _ _ _ Q24.out.2.2 (hb_nil _) true (decide_eq_true rfl))
            by_cases c2 : who < 0
            · clear c1
              go_wp2_with fail
              refine SQ.out.mono ?_
              rintro e w25 ⟨rfl, hb⟩
              have BZ := Lib.hid (B24.out.trans (hb.mono B24.out.size))
              clear hb
              go_wp2
              go_ret
              exact ⟨rfl, BZ.out⟩
            · have c3 : (ns : Int) ≤ who := by omega
              clear c1
              go_wp2_with fail
              refine SQ.out.mono ?_
              rintro e w25 ⟨rfl, hb⟩
              have BZ := Lib.hid (B24.out.trans (hb.mono B24.out.size))
              clear hb
              go_wp2
              go_ret
              exact ⟨rfl, BZ.out⟩
          · obtain ⟨kk, rfl⟩ : ∃ kk : Nat, who = kk := ⟨who.toNat, by omega⟩
            have hkk : kk < ns := by omega
            have k1 : ¬ (kk : Int) < 0 := by omega
            have k2 : ¬ (ns : Int) ≤ (kk : Int) := by omega
            have k3 : (kk : Int) < (ns : Int) := by omega
            obtain ⟨v0, hv0⟩ : ∃ v, b.2[kk]? = some v := ⟨_, List.getElem?_eq_getElem (by rw [LS.out]; exact hkk)⟩
            have SV := Lib.hid (show sawAt b.2 (kk : Int) = v0 by unfold sawAt; rw [Int.toNat_natCast, List.getD_eq_getElem?_getD, hv0]; rfl)
            have HV0 := Lib.hid hv0
            have VB := Lib.hid (OK.out.saw v0 (List.mem_of_getElem? hv0))
            obtain ⟨b3, o3, hS3, _, y3⟩ := int_at HBX.out.saw hv0
            clear hv0 c1
            by_cases c4 : v0 = 1099511627776 ∨ nh = 400
            · as_aux_lemma =>
              have hf4 : f = 4 := by
                rw [← HPF.out]
                unfold putE
                rw [if_neg (by rw [OKR.out]; decide), if_neg (by rw [LS.out]; omega), if_pos (by rw [SV.out, LH.out]; exact c4)]
              have hp4 : p = ([], []) := by rw [← HPB.out]; exact putB_no (by rw [HPF.out, hf4]; decide)
              subst hf4 hp4
              obtain rfl : 0 = pn := HPN.out
              obtain rfl : 0 = pm := HPM.out
              have SQ := Lib.hid (samebag_c _ _ _ _ _ _ _ _ _ _ _ _ _ _ _ Q24.out.2.2 (hb_nil _) true (decide_eq_true rfl))
              subst hS3
              by_cases c5 : v0 = 1099511627776
              · have n5 : (v0 == 1099511627776) = true := by simpa using c5
                clear c4 c5
                go_wp2_with fail
                refine SQ.out.mono ?_
                rintro e w25 ⟨rfl, hb⟩
                have BZ := Lib.hid (B24.out.trans (hb.mono B24.out.size))
                clear hb
                go_wp2
                go_ret
                exact ⟨rfl, BZ.out⟩
              · have n5 : (v0 == 1099511627776) = false := by simpa using c5
                have n6 : ((nh : Int) == 400) = true := by simp; omega
                clear c4 c5
                go_wp2_with fail
                refine SQ.out.mono ?_
                rintro e w25 ⟨rfl, hb⟩
                have BZ := Lib.hid (B24.out.trans (hb.mono B24.out.size))
                clear hb
                go_wp2
                go_ret
                exact ⟨rfl, BZ.out⟩
            · have n5 : (v0 == 1099511627776) = false := by simp; omega
              have n6 : ((nh : Int) == 400) = false := by simp; omega
              have hf0 : f = 0 := by
                rw [← HPF.out]
                unfold putE
                rw [if_neg (by rw [OKR.out]; decide), if_neg (by rw [LS.out]; omega), if_neg (by rw [SV.out, LH.out]; exact c4)]
              have hp0 : p = (putH b kk elem, bumpS b.2 kk) := by rw [← HPB.out]; exact putB_of (by rw [HPF.out, hf0])
              subst hf0
              have HPP := Lib.hid hp0
              have CL := Lib.hid (clone_z (some ⟨b3, o3, none⟩) b.2 ns cs _ LS.out (by omega) (hS3 ▸ HBX.out.saw))
              subst hS3
              clear c4 hp0
              go_wp2_with fail
              refine CL.out.mono ?_
              rintro e w25 ⟨A5, c5, rfl, hz, hb⟩
              obtain ⟨V1, hV1⟩ : ∃ V, w25.alloc (.cells #[.slice none 0 0, .slice A5 ns c5] 25) = V := ⟨_, rfl⟩
              obtain ⟨g5, x5, e5, p1, p2, p3, p4, p5, p6⟩ := (hz.alloc (.cells #[.slice none 0 0, .slice A5 ns c5] 25)).put LS.out hkk
              have g5l : g5 < w25.heap.size := by
                have h1 := hz.lt g5 (by rw [e5]; rfl)
                exact h1.2
              have SZ5 := Lib.hid (show w24_.heap.size ≤ w25.heap.size ∧ g5 < w25.heap.size from ⟨hb.size, g5l⟩)
              have C5 := Lib.hid (show ns ≤ c5 ∧ c5 ≤ 9223372036854775807 by
                obtain ⟨A', c', e1, h1, h2⟩ := hz.form
                injection e1 with _ _ e1
                subst e1
                have := LS.out
                exact ⟨by omega, by unfold maxLen at h2; omega⟩)
              have K1 := Known.made w25 tB #[.slice none 0 0, .slice A5 ns c5]
              subst e5
              rw [hV1] at p4 p5 p6 K1
              rw [HV0.out] at p3
              injection p3 with p3
              subst p3
              have wv : IntKind.i64.wrap (v0 + 1) = v0 + 1 := IntWalk.i64_in _ (by have := VB.out; omega)
              have BV1 := hV1 ▸ hb.alloc hb.size (.cells #[.slice none 0 0, .slice (some ⟨g5, 0, none⟩) ns c5] 25)
              obtain ⟨w26, hw26⟩ : ∃ V, V1.setCell ⟨g5, kk, none⟩ (.int .i64 (v0 + 1)) = V := ⟨_, rfl⟩
              have KW := Lib.hid (show Known w26 w25.heap.size tB #[.slice none 0 0, .slice (some ⟨g5, 0, none⟩) ns c5] from hw26 ▸ K1.off (p := ⟨g5, kk, none⟩) (by show w25.heap.size ≠ g5; omega) _)
              have RS := Lib.hid (show Reads w26 (some ⟨g5, 0, none⟩) (ints (b.2.set kk (v0 + 1))) from hw26 ▸ (p6 (v0 + 1)).reads)
              have B26 := Lib.hid (show Below w24_.heap.size w24_ w26 from hw26 ▸ BV1.setCell (p := ⟨g5, kk, none⟩) p1 _)
              have SZ6 := Lib.hid (show w25.heap.size < w26.heap.size from KW.out.lt)
              have X26 := Lib.hid (X24.out.below B26.out)
              have k10 := K1.cell 0
              have k11 := K1.cell 1
              simp at k10 k11
              clear hz hb p1 p2 p6 CL BV1 K1 HBX
              go_wp2_with fail
              clear hV1 hw26 k10 k11 s0 s1 u0 u1 p4 p5 y3
              obtain ⟨s0, s1, -⟩ := X26.out
              have sA : (b.2.set kk (v0 + 1))[kk]? = some (v0 + 1) := by rw [List.getElem?_set_self (by rw [LS.out]; exact hkk)]
              obtain ⟨b6, o6, e6, _, y6⟩ := int_at RS.out sA
              injection e6 with e6
              injection e6 with e6 e7
              subst e6 e7
              rw [Nat.zero_add] at y6
              have Y6 := Lib.hid y6
              clear sA
              go_loopw [24] (fun i w => ∃ q : Nat, q ≤ nh ∧ i = .int .i64 q ∧ (∀ (j : Nat) (t : Tg), j < q → b.1[j]? = some t → t.1 ≤ (kk : Int)) ∧ w = w26) (fun i _ => nh - (Go.RowKit.intOf i).toNat)
              case atStart => exact ⟨0, by omega, rfl, fun j t h => absurd h (Nat.not_lt_zero _), rfl⟩
              case round =>
                obtain ⟨at_, hat, rfl, hall, rfl⟩ := hrel
                have HAll := Lib.hid hall
                obtain ⟨r, hr⟩ : ∃ r, ((b.1[at_]?).map (fun t => decide (t.1 ≤ (kk : Int)))).getD false = r := ⟨_, rfl⟩
                have HRR := Lib.hid hr
                clear hall hr
                go_upto_region 38 with fail
                go_cut [229] from 215 to 229 (fun v wx => v = .bool r ∧ wx = wr)
                case first => as_aux_lemma =>
                  obtain ⟨s0, s1, hbx⟩ := X26.out
                  by_cases hlt2 : at_ < nh
                  · obtain ⟨⟨t0, t1, t2⟩, ht⟩ : ∃ x, b.1[at_]? = some x := ⟨_, List.getElem?_eq_getElem (by rw [LH.out]; exact hlt2)⟩
                    obtain ⟨b7, o7, rfl, _, x0, x1, x2⟩ := tg_at hbx.has ht
                    have i1 : (at_ : Int) < (nh : Int) := by omega
                    simp only at x0 x1 x2
                    by_cases hle : t0 ≤ (kk : Int)
                    · obtain rfl : true = r := by rw [← HRR.out, ht]; simp [hle]
                      clear hbx ht
                      go_wp2
                      go_meet
                      exact ⟨rfl, rfl⟩
                    · obtain rfl : false = r := by rw [← HRR.out, ht]; simp [hle]
                      clear hbx ht
                      go_wp2
                      go_meet
                      exact ⟨rfl, rfl⟩
                  · obtain rfl : false = r := by rw [← HRR.out, List.getElem?_eq_none (by rw [LH.out]; omega)]; rfl
                    have i1 : ¬ (at_ : Int) < (nh : Int) := by omega
                    clear hbx
                    go_wp2
                    go_meet
                    exact ⟨rfl, rfl⟩
                case rest =>
                  obtain ⟨rfl, hwc⟩ := hcut
                  rw [hwc]
                  clear hwc wc
                  cases r with
                  | true =>
                    have hlt2 : at_ < nh := by
                      rcases Nat.lt_or_ge at_ nh with h | h
                      · exact h
                      · have := HRR.out
                        rw [List.getElem?_eq_none (by rw [LH.out]; exact h)] at this
                        cases this
                    have HA2 := Lib.hid (show ∀ (j : Nat) (t : Tg), j < at_ + 1 → b.1[j]? = some t → t.1 ≤ (kk : Int) from fun j t hj ht => by
                      by_cases e : j < at_
                      · exact HAll.out j t e ht
                      · obtain rfl : j = at_ := by omega
                        have := HRR.out
                        rw [ht] at this
                        simpa using this)
                    go_wp2
                    go_roundw
                    case rel => exact ⟨at_ + 1, by omega, by go_num, HA2.out, trivial⟩
                    case measure => simp [Go.RowKit.intOf]; omega
                  | false =>
                    have PI := Lib.hid (put_ins (b := b) (who := (kk : Int)) (elem := elem) HAll.out (by rw [LH.out]; exact hat) (fun t ht => by
                      have := HRR.out
                      rw [ht] at this
                      simp at this
                      omega))
                    have HT := Lib.hid (show newTag b (kk : Int) elem = ((kk : Int), v0 + 1, elem) by unfold newTag; rw [SV.out])
                    clear s0 s1
                    go_wp2_with fail
                    go_upto_region 40 with fail
                    go_cut [24] (fun v wx => v = .int .i64 at_ ∧ ∃ A9 c9, wx.cell? ⟨w25.heap.size, 0, none⟩ = some (.slice A9 (nh + 1) c9) ∧ wx.cell? ⟨w25.heap.size, 1, none⟩ = some (.slice (some ⟨g5, 0, none⟩) ns c5) ∧ (nh + 1 ≤ c9 ∧ c9 ≤ 9223372036854775807) ∧ Reads wx A9 (flat tgE (insL b.1 at_ ((kk : Int), v0 + 1, elem))) ∧ Reads wx (some ⟨g5, 0, none⟩) (ints (b.2.set kk (v0 + 1))) ∧ Below w24_.heap.size w24_ wx)
                    case first => as_aux_lemma =>
                      have RH := Lib.hid X26.out.2.2.has
                      have SK := Lib.hid (show ∀ w, Below wr.heap.size wr w → w.cell? ⟨W.heap.size, 0, none⟩ = some (.slice H nh ch) ∧ w.cell? ⟨w25.heap.size, 1, none⟩ = some (.slice (some ⟨g5, 0, none⟩) ns c5) ∧ w.cell? ⟨g5, kk, none⟩ = some (.int .i64 (v0 + 1)) from fun w hb => ⟨(X26.out.below hb).1, (KW.out.later hb).cell 1, (hb.cell (World.block_lt_of_cell? _ _ Y6.out)).trans Y6.out⟩)
                      have C1 := Lib.hid (clone_tg H b.1 nh ch wr.drew LH.out (by omega) (RH.out.below (below_drew (Below.refl _ _))))
                      have C2 := Lib.hid (clone_tg H b.1 nh ch (wr.alloc (.cells #[.int .i64 (kk : Int), .int .i64 (v0 + 1), .int .i64 elem] 37)).drew LH.out (by omega) (RH.out.below (below_drew (low_lit wr (.cells #[.int .i64 (kk : Int), .int .i64 (v0 + 1), .int .i64 elem] 37)))))
                      have KD := Lib.hid (below_drew (Below.refl wr.heap.size wr))
                      have SW := (show W.heap.size < w25.heap.size from by have h1 := World.block_lt_of_cell? _ _ X24.out.1; have h2 := SZ5.out.1; exact Nat.lt_of_lt_of_le h1 h2)
                      have KL := Lib.hid (below_drew (low_lit wr (.cells #[.int .i64 (kk : Int), .int .i64 (v0 + 1), .int .i64 elem] 37)))
                      have i1 : (kk : Int) < (ns : Int) := k3
                      clear y6
                      go_region_held3 (fun w' => w'.cell? ⟨W.heap.size, 0, none⟩ = some (.slice H nh ch) ∧ w'.cell? ⟨w25.heap.size, 1, none⟩ = some (.slice (some ⟨g5, 0, none⟩) ns c5) ∧ w'.cell? ⟨g5, kk, none⟩ = some (.int .i64 (v0 + 1))) (first | (with_reducible exact SS.out) | (with_reducible exact SK.out _ KC.out) | (with_reducible exact SK.out _ KA2.out) | (with_reducible exact SK.out _ KA.out) | (with_reducible exact SK.out _ KB.out) | (with_reducible exact SK.out _ KD.out) | (with_reducible exact SK.out _ KL.out) | go_keep)
                        (first
                          | (go_at_call 19; refine C1.out.mono ?_; rintro e wA ⟨A7, c7, rfl, hT, hb⟩; have TA := Lib.hid hT; have KA := Lib.hid (show Below wr.heap.size wr wA from below_undrewO hb); have KA2 := Lib.hid (show Below wr.heap.size wr (wA.alloc (.cells #[.int .i64 (kk : Int), .int .i64 (v0 + 1), .int .i64 elem] 37)) from KA.out.alloc KA.out.size _); have I1 := Lib.hid (insert_c wr.heap.size A7 b.1 nh c7 at_ wA.heap.size ((kk : Int), v0 + 1, elem) #[.int .i64 (kk : Int), .int .i64 (v0 + 1), .int .i64 elem] (wA.alloc (.cells #[.int .i64 (kk : Int), .int .i64 (v0 + 1), .int .i64 elem] 37)) LH.out h400 hat (TA.out.alloc _) (Known.made wA tT _) rfl (fun g hg => by have := (TA.out.lt g (by rw [hg]; rfl)).2; omega) KA2.out.size); clear hT hb)
                          | (go_at_call 19; refine C2.out.mono ?_; rintro e wB ⟨A7, c7, rfl, hT, hb⟩; have TB := Lib.hid (hT.down (B' := wr.heap.size) (by simp)); have KB := Lib.hid (show Below wr.heap.size wr wB from KL.out.trans (hb.mono (by simp))); have I2 := Lib.hid (insert_c wr.heap.size A7 b.1 nh c7 at_ wr.heap.size ((kk : Int), v0 + 1, elem) #[.int .i64 (kk : Int), .int .i64 (v0 + 1), .int .i64 elem] wB LH.out h400 hat TB.out (show Known wB wr.heap.size tT _ from (Known.made wr tT _).later (show Below (wr.alloc (.cells #[.int .i64 (kk : Int), .int .i64 (v0 + 1), .int .i64 elem] 37)).heap.size (wr.alloc (.cells #[.int .i64 (kk : Int), .int .i64 (v0 + 1), .int .i64 elem] 37)) wB from below_undrewO hb)) rfl (fun g hg => by have := (hT.lt g (by rw [hg]; rfl)).1; simp at this; omega) KB.out.size); clear hT hb)
                          | (go_at_call 18; refine I1.out.mono ?_; rintro e wC ⟨A9, c9, rfl, hc9, hr9, hb9, ho9⟩; have KC := Lib.hid (KA2.out.trans hb9); have R9 := Lib.hid hr9; have O9 := Lib.hid ho9; have CC9 := Lib.hid hc9; have KWC := Lib.hid (KW.out.later KC.out); have kw0 := KWC.out.cell 0; have kf0 := KWC.out.free 0; simp at kw0; have SC := SK.out _ KC.out; have SS := Lib.hid (show (wC.setCell ⟨w25.heap.size, 0, none⟩ (.slice A9 (nh + 1) c9)).cell? ⟨W.heap.size, 0, none⟩ = some (.slice H nh ch) ∧ (wC.setCell ⟨w25.heap.size, 0, none⟩ (.slice A9 (nh + 1) c9)).cell? ⟨w25.heap.size, 1, none⟩ = some (.slice (some ⟨g5, 0, none⟩) ns c5) ∧ (wC.setCell ⟨w25.heap.size, 0, none⟩ (.slice A9 (nh + 1) c9)).cell? ⟨g5, kk, none⟩ = some (.int .i64 (v0 + 1)) from ⟨far_cell SC.1 (fun h => by injection h with h; omega), far_cell SC.2.1 (fun h => by injection h with h1 h2; cases h2), far_cell SC.2.2 (fun h => by injection h with h; have := SZ5.out.2; omega)⟩); clear SC; clear hc9 hr9 hb9 ho9)
                          | (go_at_call 18; refine I2.out.mono ?_; rintro e wC ⟨A9, c9, rfl, hc9, hr9, hb9, ho9⟩; have KC := Lib.hid (KB.out.trans hb9); have R9 := Lib.hid hr9; have O9 := Lib.hid ho9; have CC9 := Lib.hid hc9; have KWC := Lib.hid (KW.out.later KC.out); have kw0 := KWC.out.cell 0; have kf0 := KWC.out.free 0; simp at kw0; have SC := SK.out _ KC.out; have SS := Lib.hid (show (wC.setCell ⟨w25.heap.size, 0, none⟩ (.slice A9 (nh + 1) c9)).cell? ⟨W.heap.size, 0, none⟩ = some (.slice H nh ch) ∧ (wC.setCell ⟨w25.heap.size, 0, none⟩ (.slice A9 (nh + 1) c9)).cell? ⟨w25.heap.size, 1, none⟩ = some (.slice (some ⟨g5, 0, none⟩) ns c5) ∧ (wC.setCell ⟨w25.heap.size, 0, none⟩ (.slice A9 (nh + 1) c9)).cell? ⟨g5, kk, none⟩ = some (.int .i64 (v0 + 1)) from ⟨far_cell SC.1 (fun h => by injection h with h; omega), far_cell SC.2.1 (fun h => by injection h with h1 h2; cases h2), far_cell SC.2.2 (fun h => by injection h with h; have := SZ5.out.2; omega)⟩); clear SC; clear hc9 hr9 hb9 ho9))
                      all_goals
                        go_wp2
                        go_meet
                        have KP := KWC.out.put 0 (.slice A9 (nh + 1) c9)
                        refine ⟨rfl, A9, c9, by rw [KP.cell 0]; rfl, by rw [KP.cell 1]; rfl, CC9.out, R9.out.off (fun a ha => by have h1 := O9.out a ha; have h2 := SZ6.out; show a.block ≠ w25.heap.size; omega) _, (RS.out.below KC.out).off (fun a ha => by injection ha with ha; subst ha; have := SZ5.out.2; show g5 ≠ w25.heap.size; omega) _, ?_⟩
                        exact (B26.out.trans (KC.out.mono B26.out.size)).setCell (p := ⟨w25.heap.size, 0, none⟩) SZ5.out.1 _
                    case rest =>
                      obtain ⟨rfl, A9, c9, z0, z1, z2, z3, z4, hbz⟩ := hcut
                      have HWant := Lib.hid (show HB wc A9 (some ⟨g5, 0, none⟩) (nh + 1) c9 ns c5 (putH b kk elem, bumpS b.2 kk) from ⟨by show (putH b kk elem).length = nh + 1; rw [put_len, LH.out], by show (bumpS b.2 kk).length = ns; rw [bump_len, LS.out], z2, C5.out, by omega, by omega, by
                          have := z3
                          rw [← HT.out, PI.out] at this
                          exact this, by
                          show Reads wc _ (ints (bumpS b.2 kk))
                          unfold bumpS
                          rw [Int.toNat_natCast, SV.out]
                          exact z4, fun t ht => by
                          rcases put_mem.1 ht with h | rfl
                          · exact FH.out t h
                          · exact HF.out⟩)
                      have QZ := Lib.hid (Q24.out.below hbz)
                      have SBZ := Lib.hid (samebag_c _ _ _ _ _ _ _ _ _ _ _ _ _ _ wc QZ.out.2.2 HWant.out true (decide_eq_true HPP.out))
                      have BZ := Lib.hid (B24.out.trans (hbz.mono B24.out.size))
                      obtain ⟨u0, u1, -⟩ := QZ.out
                      clear z2 z3 z4 hbz
                      go_wp2_with fail
                      refine SBZ.out.mono ?_
                      rintro e w41 ⟨rfl, hb⟩
                      have BY := Lib.hid (BZ.out.trans (hb.mono BZ.out.size))
                      clear hb
                      go_wp2
                      go_ret
                      exact ⟨rfl, BY.out⟩
theorem puts_w (hN : NewSpec) (hR : RightSpec) (hP : PutSpec) (hD : DropSpec) (hA : AllSpec) (H S : Option Addr) (nh ch ns cs : Nat) (b : Bg) (who elem many : Int) (W : World) (h : HB W H S nh ch ns cs b) (hw : (Lit.int .i64 who).wf = true) (hf : (Lit.int .i64 elem).wf = true) (hm : (Lit.int .i64 many).wf = true) :
    Calls Try.prog 3 #[.agg #[.slice H nh ch, .slice S ns cs], .int .i64 who, .int .i64 elem, .int .i64 many] W (Law.Yes W) := by
  cases h0 : okB b with
  | false => exact puts_bad hN hR hP hD hA H S nh ch ns cs b who elem many W h hw (fit_of hf) hm h0
  | true => exact puts_ok hN hR hP hD hA H S nh ch ns cs b who elem many W h hw (fit_of hf) hm (okB_iff.1 h0)
end Go.Proofs.Ythebilmeehnkpaa.Ors
