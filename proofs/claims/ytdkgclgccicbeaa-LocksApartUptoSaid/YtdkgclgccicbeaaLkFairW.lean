/-
  The law LocksFair over what it takes of the program.
-/
import Derived.Test.YtdkgclgccicbeaaLkIdx
import Derived.Test.YtdkgclgccicbeaaLaw
import Derived.Deep.RegionHeld3
namespace Go.Proofs.Ytdkgclgccicbeaa.Lk
set_option linter.unusedVariables false
set_option linter.unusedSimpArgs false
open Go.RowKit Mem Gt

theorem below_undrew' {B : Nat} {W V : World} (h : Below B W.drew V) : Below B W V := ⟨h.os, h.tape, h.output, h.size, h.block⟩
theorem fit_snoc {l : List LO} {o : LO} (hl : FitOs l) (ho : FitO o) : FitOs (l ++ [o]) := fun x hx => by
  rcases List.mem_append.1 hx with h | h
  · exact hl x h
  · rw [List.mem_singleton.1 h]; exact ho
theorem keysL_len : ∀ ops : List LO, (keys ops).length ≤ ops.length
  | [] => by simp [keys]
  | o :: r => by
    have h : ∀ (k : Int) (l : List Int), (ins k l).length ≤ l.length + 1 := fun k l => by
      induction l with
      | nil => simp [ins]
      | cons x l ih =>
        unfold ins
        by_cases h1 : k < x
        · rw [if_pos h1]; simp
        · rw [if_neg h1]
          by_cases h2 : k = x
          · rw [if_pos h2]; simp
          · rw [if_neg h2]; simp; omega
    show (ins o.2.2 (keys r)).length ≤ _
    have := h o.2.2 (keys r)
    have := keysL_len r
    simp; omega
theorem locksL_len (ops : List LO) : (locks ops).length ≤ ops.length := by
  unfold locks
  rw [List.length_map]
  exact Nat.le_trans (List.length_filter_le _ _) (keysL_len ops)
theorem may_b {er kd : Int} {x1 : Bool} {x3 : List LO} {ns : Nat} (h : er = 0 ↔ x3 = [] ∧ x1 = false ∧ kd = 1) (hl : x3.length = ns) : decide (er = 0) = (decide (ns = 0) && (!x1 && decide (kd = 1))) := by
  rw [Bool.eq_iff_iff]
  simp only [Bool.and_eq_true, decide_eq_true_iff, Bool.not_eq_true']
  rw [← hl, List.length_eq_zero_iff]
  exact h
def FairAt (er kd ky : Int) (r : List LO) : Prop := er = 0 ↔ (lockOf ky r).2.2.2 = [] ∧ (lockOf ky r).2.1 = false ∧ kd = 1
theorem errL_vals (l : List LO) (o : LO) : errL l o = 0 ∨ errL l o = 1 ∨ errL l o = 2 ∨ errL l o = 3 ∨ errL l o = 5 ∨ errL l o = 6 := by
  unfold errL
  by_cases h1 : o.1 < 1 ∨ 3 < o.1
  · rw [if_pos h1]; omega
  rw [if_neg h1]
  by_cases h2 : o.2.1 < 0 ∨ 15 < o.2.1
  · rw [if_pos h2]; omega
  rw [if_neg h2]
  by_cases h3 : o.1 = 3 ∧ o.2.1 ∉ nodes l
  · rw [if_pos h3]; omega
  rw [if_neg h3]
  by_cases h4 : o.1 = 3
  · rw [if_pos h4]; omega
  rw [if_neg h4]
  by_cases h5 : o.2.1 ∈ nodes l
  · rw [if_pos h5]; omega
  rw [if_neg h5]
  by_cases h6 : held (l ++ [o]) = l.length + 1
  · rw [if_pos h6]; omega
  rw [if_neg h6]; omega
set_option maxRecDepth 100000 in
set_option maxHeartbeats 16000000 in
theorem fair_w (hP : PlaySpec) (A : Option Addr) (l : List LO) (n ca : Nat) (kd nd ky : Int) (W : World) (hn : l.length = n) (hbig : n ≤ 1048576) (hx : Reads W A (flat loE l)) (hf : FitOs l) (ho : FitO (kd, nd, ky)) :
    Calls Try.prog 6 #[.slice A n ca, .agg #[.int .i64 kd, .int .i64 nd, .int .i64 ky]] W (Law.Yes W) := by
  obtain ⟨es, hes⟩ : ∃ es, errs l = es := ⟨_, rfl⟩
  obtain ⟨ls, hls⟩ : ∃ ls, locks l = ls := ⟨_, rfl⟩
  obtain ⟨kl, hkl⟩ : ∃ kl, ls.length = kl := ⟨_, rfl⟩
  obtain ⟨er, her⟩ : ∃ er, errL (st l ky) (kd, nd, ky) = er := ⟨_, rfl⟩
  obtain ⟨ls2, hls2⟩ : ∃ ls, locks (l ++ [(kd, nd, ky)]) = ls := ⟨_, rfl⟩
  obtain ⟨k2, hk2⟩ : ∃ kl, ls2.length = kl := ⟨_, rfl⟩
  have he2 : errs (l ++ [(kd, nd, ky)]) = es ++ [er] := by rw [errs_snoc, hes, her]
  have NE := Lib.hid (show es.length = n by rw [← hes, errs_len, hn])
  have NL := Lib.hid (show kl ≤ 1048576 by have := locksL_len l; rw [hls, hkl] at this; omega)
  have NL2 := Lib.hid (show k2 ≤ 1048577 by have := locksL_len (l ++ [(kd, nd, ky)]); rw [hls2, hk2] at this; simp at this; omega)
  have AL := Lib.hid (fun V => alive_c hP V)
  have B0 := Lib.hid (low_lit W (.cells #[.int .i64 kd, .int .i64 nd, .int .i64 ky] 36))
  obtain ⟨z0, z1, z2⟩ := box_lo (w := W) (kd, nd, ky)
  simp only at z0 z1 z2
  have P1 := Lib.hid (fun V (h : Below W.heap.size W V) => hP A l n ca V es ls kl hn (by omega) (hx.below h) hf hes hls hkl)
  have P2 := Lib.hid (fun B c V (h : Reads V B (flat loE (l ++ [(kd, nd, ky)]))) => hP B (l ++ [(kd, nd, ky)]) (n + 1) c V (es ++ [er]) ls2 k2 (by simp [hn]) (by omega) h (fit_snoc hf ho) he2 hls2 hk2)
  have CL := Lib.hid (fun V (h : Below W.heap.size W V) => clone_lo A l n ca V hn (by omega) (hx.below h))
  have HN := Lib.hid hn
  have HKL := Lib.hid hkl
  have HK2 := Lib.hid hk2
  have HLS := Lib.hid hls
  have HLS2 := Lib.hid hls2
  have HER := Lib.hid her
  have HB := Lib.hid hbig
  have wn1 : IntKind.i64.wrap ((n : Int) + 1) = ((n + 1 : Nat) : Int) := by rw [show (n : Int) + 1 = ((n + 1 : Nat) : Int) by omega]; exact IntWalk.i64_in _ (by omega)
  clear hx hf ho hn hes hls hkl hls2 hk2 he2 her
  go_enter Try.func6, Try.ntmps6
  go_wp2_with fail
  refine (AL.out _).mono ?_
  rintro e w1 ⟨rfl, hb⟩
  have B1 := Lib.hid (B0.out.trans (hb.mono B0.out.size))
  have y0 := (hb.cell (World.block_lt_of_cell? _ _ z0)).trans z0
  have y1 := (hb.cell (World.block_lt_of_cell? _ _ z1)).trans z1
  have y2 := (hb.cell (World.block_lt_of_cell? _ _ z2)).trans z2
  clear hb z0 z1 z2
  go_wp2_with fail
  refine (P1.out w1 B1.out).mono ?_
  rintro e w2 ⟨A2, c2, B2, d2, rfl, _, _, -, hl2, hb⟩
  have LB2 := Lib.hid (B1.out.trans (hb.mono B1.out.size))
  have L2 := Lib.hid hl2.rds
  have z0 := (hb.cell (World.block_lt_of_cell? _ _ y0)).trans y0
  have z1 := (hb.cell (World.block_lt_of_cell? _ _ y1)).trans y1
  have z2 := (hb.cell (World.block_lt_of_cell? _ _ y2)).trans y2
  clear hb hl2 y0 y1 y2
  go_upto_region 4 with fail
  have SK := Lib.hid (show ∀ w, Below w2.heap.size w2 w → w.cell? ⟨W.heap.size, 0, none⟩ = some (.int .i64 kd) ∧ w.cell? ⟨W.heap.size, 1, none⟩ = some (.int .i64 nd) ∧ w.cell? ⟨W.heap.size, 2, none⟩ = some (.int .i64 ky) from fun w hb =>
    ⟨(hb.cell (World.block_lt_of_cell? _ _ z0)).trans z0, (hb.cell (World.block_lt_of_cell? _ _ z1)).trans z1, (hb.cell (World.block_lt_of_cell? _ _ z2)).trans z2⟩)
  have DA := Lib.hid (show Below w2.heap.size w2 w2.drew from below_drewN (Below.refl _ _) 1)
  have DB := Lib.hid (show Below w2.heap.size w2 (w2.drew.alloc (.cells #[.int .i64 kd, .int .i64 nd, .int .i64 ky] 36)) from DA.out.alloc (Nat.le_refl _) _)
  have CA := Lib.hid (CL.out _ (LB2.out.trans (DA.out.mono LB2.out.size)))
  have CB := Lib.hid (CL.out _ (LB2.out.trans (DB.out.mono LB2.out.size)))
  have RB := Lib.hid (show Reads (w2.drew.alloc (.cells #[.int .i64 kd, .int .i64 nd, .int .i64 ky] 36)) (some ⟨w2.heap.size, 0, none⟩) (flat loE [(kd, nd, ky)]) from reads_lit w2.drew _ rfl)
  go_cut [7, 8] (fun a b wx => ∃ A3 c3 B3 d3, a = .slice A3 (n + 1) c3 ∧ b = .slice B3 k2 d3 ∧ Reads wx A3 (ints (es ++ [er])) ∧ LRds wx B3 ls2 ∧ Below w2.heap.size w2 wx)
  case first =>
    go_region_held3 (fun w => w.cell? ⟨W.heap.size, 0, none⟩ = some (.int .i64 kd) ∧ w.cell? ⟨W.heap.size, 1, none⟩ = some (.int .i64 nd) ∧ w.cell? ⟨W.heap.size, 2, none⟩ = some (.int .i64 ky)) (first | go_keep | exact SK.out _ K3.out | exact SK.out _ K4.out | exact SK.out _ K5.out)
      (first
        | (go_at_call 16; refine CA.out.mono ?_; rintro e w3 ⟨A3, c3, rfl, hT, hb⟩; have T3 := Lib.hid hT; have K3 := Lib.hid (show Below w2.heap.size w2 w3 from DA.out.trans (hb.mono DA.out.size)); clear hT hb)
        | (go_at_call 16; refine CB.out.mono ?_; rintro e w3 ⟨A3, c3, rfl, hT, hb⟩; have T3 := Lib.hid hT; have K3 := Lib.hid (show Below w2.heap.size w2 w3 from DB.out.trans (hb.mono DB.out.size)); have S3 := Lib.hid (RB.out.below hb); have SZ3 := Lib.hid hb.size; clear hT hb)
        | (refine step_append_g elLO (by decide) (B := w2.drew.heap.size) (n := n) (m := 1) (c := 1) (b := w3.heap.size) (o' := 0) (v := .slice A3 n c3) (es := l) (ys := [(kd, nd, ky)]) (AD := some ⟨w3.heap.size, 0, none⟩) (by rfl) _ _ (by rfl) rfl rfl rfl (T3.out.alloc _) HN.out (reads_lit w3 _ rfl) rfl (by unfold maxLen; have := HB.out; omega) (by have := HB.out; omega) (Nat.le_trans K3.out.size (by simp)) ?_; intro A4 c4 w4 Z4 G4; have K4 := Lib.hid ((T3.out.alloc _).below G4.out (K3.out.alloc K3.out.size _) (Nat.le_refl _) (Nat.le_trans K3.out.size (by simp))))
        | (refine step_append_g elLO (by decide) (B := (w2.drew.alloc (.cells #[.int .i64 kd, .int .i64 nd, .int .i64 ky] 36)).heap.size) (n := n) (m := 1) (c := 1) (b := w2.heap.size) (o' := 0) (v := .slice A3 n c3) (es := l) (ys := [(kd, nd, ky)]) (AD := some ⟨w2.heap.size, 0, none⟩) (by rfl) _ _ (by rfl) rfl rfl rfl T3.out HN.out S3.out rfl (by unfold maxLen; have := HB.out; omega) (by have := HB.out; omega) SZ3.out ?_; intro A4 c4 w4 Z4 G4; have K4 := Lib.hid (T3.out.below G4.out K3.out DB.out.size K3.out.size))
        | (go_at_call 8; refine (P2.out A4 c4 w4 Z4.out.reads).mono ?_; rintro e w5 ⟨A5, c5, B5, d5, rfl, _, _, hr5, hl5, hb5⟩; have K5 := Lib.hid (show Below w2.heap.size w2 w5 from K4.out.trans (hb5.mono K4.out.size)); have R5 := Lib.hid hr5; have L5 := Lib.hid hl5.rds; clear hb5 hr5 hl5))
    all_goals go_wp2_with fail
    all_goals go_meet
    all_goals exact ⟨A5, c5, B5, d5, rfl, rfl, R5.out, L5.out, K5.out⟩
  case rest =>
    obtain ⟨A3, c3, B3, d3, rfl, rfl, hr3, hl3, hb3⟩ := hcut
    have EN : (es ++ [er])[n]? = some er := by rw [List.getElem?_append_right (by rw [NE.out]; exact Nat.le_refl _), NE.out]; simp
    obtain ⟨g3, o3, rfl, _, x9⟩ := int_at hr3 EN
    have B4 := Lib.hid (LB2.out.trans (hb3.mono LB2.out.size))
    obtain ⟨z0, z1, z2⟩ := SK.out _ hb3
    have q1 : (((n + 1 : Nat) : Int) != ((n + 1 : Nat) : Int)) = false := by simp
    have i1 : (n : Int) < ((n + 1 : Nat) : Int) := by omega
    have i2 : n < n + 1 := by omega
    have L3 := Lib.hid hl3
    have L4 := Lib.hid (L2.out.below hb3)
    have SM := Lib.hid (fun (h : ls2 = ls) => samelocks_c B2 B3 ls ls2 kl k2 d2 d3 wc HKL.out HK2.out (by have := NL.out; omega) L4.out L3.out true ⟨fun _ => h.symm, fun _ => rfl⟩)
    have PK := Lib.hid (fair1_c W.heap.size ky wc z2)
    have IX := Lib.hid (indexK_c 18 #[.pointer (some ⟨W.heap.size, 0, none⟩)] (enters_of Try.func18 (by kernel_rfl) rfl) wc.heap.size wc B2 ls kl d2 (fun k => k == ky) wc HKL.out (by have := NL.out; omega) L4.out PK.out (Below.refl _ _) (Nat.le_refl _))
    clear hr3 hl3 hb3 EN SK P1 P2 CL AL CA CB RB DA DB
    have VL := errL_vals (st l ky) (kd, nd, ky)
    rw [HER.out] at VL
    by_cases hK : (kd = 1 ∨ kd = 2) ∧ (er = 0 ∨ er = 6)
    · obtain ⟨hk, he⟩ := hK
      have HF0 := Lib.hid (fun (h : st l ky = []) => (show er = 0 by
        have := HER.out; rw [h] at this
        rw [← this]; exact fair_none hk (by rw [this]; exact he)))
      have HF := Lib.hid (fun (h : st l ky ≠ []) => (show FairAt er kd ky (st l ky) by
        rw [← HER.out]; exact fair_some (st_ok ky l) h hk (by rw [HER.out]; exact he)))
      have IX2 : Calls Try.prog 17 #[.slice B2 kl d2, .func (.func 18) #[] #[.pointer (some ⟨W.heap.size, 0, none⟩)]] wc (IxOut ls (fun k => k == ky) wc) := IX.out
      have IY := Lib.hid IX2
      clear IX2 IX SM VL
      have hk2 := Lib.hid hk
      rcases hk with rfl | rfl <;> rcases he with rfl | rfl
      all_goals
        go_wp2_with fail
        refine IY.out.mono ?_
        rintro e w6 ⟨k, hfk, rfl, hb⟩
        have B6 := Lib.hid (B4.out.trans (hb.mono B4.out.size))
        have u0 := (hb.cell (World.block_lt_of_cell? _ _ z0)).trans z0
        have LL := Lib.hid (L4.out.below hb)
        clear hb z0 z1 z2
        rcases hfk with ⟨rfl, hno⟩ | ⟨i, x, rfl, hix, hxk, _⟩
        · have hst : st l ky = [] := Classical.byContradiction fun h => by
            have := hno (lockOf ky (st l ky)) (by rw [← HLS.out]; exact mem_locks.2 ⟨h, rfl⟩)
            simp [lockOf] at this
          have h0 := HF0.out hst
          first
            | (exact absurd h0 (by decide))
            | (clear h0 hst hno
               go_wp2
               go_ret
               exact ⟨rfl, B6.out⟩)
        · obtain ⟨x0, x1, x2, x3⟩ := x
          obtain rfl : x0 = ky := by simpa using hxk
          obtain ⟨hm1, hm2⟩ := mem_locks.1 (show (x0, x1, x2, x3) ∈ locks l by rw [HLS.out]; exact List.mem_of_getElem? hix)
          simp only at hm1 hm2
          have hfs := HF.out hm1
          unfold FairAt at hfs
          rw [← hm2] at hfs
          dsimp only at hfs
          obtain ⟨bb, oo, H, nh, ch, S, ns, cs, rfl, _, c0, c1', c2', c3', ixx⟩ := LL.out.at_ hix
          have hlen := ixx.waitL
          have hil : i < kl := by rw [← HKL.out]; exact (List.getElem?_eq_some_iff.1 hix).1
          have i3 : (i : Int) < (kl : Int) := by omega
          simp only at hlen c0 c1' c2' c3'
          have hb := may_b hfs hlen
          clear hfs hm1 hm2 ixx hix hxk hlen
          by_cases hw : ns = 0
          · have nw : ((ns : Int) == 0) = true := by simp [hw]
            rw [decide_eq_true hw] at hb
            clear hw
            cases x1
            all_goals first
              | (exfalso; revert hb; decide)
              | (clear hb
                 go_wp2
                 go_ret
                 exact ⟨rfl, B6.out⟩)
          · have nw : ((ns : Int) == 0) = false := by simp [hw]
            rw [decide_eq_false hw] at hb
            clear hw
            first
              | (exfalso; revert hb; cases x1 <;> decide)
              | (clear hb
                 go_wp2
                 go_ret
                 exact ⟨rfl, B6.out⟩)
    · have hS : ¬ (kd = 3 ∧ er = 0) → ls2 = ls := fun h => by
        rw [← HLS.out, ← HLS2.out]
        refine same_locks (o := (kd, nd, ky)) fun he => h ?_
        rw [HER.out] at he
        have hk3 := err_kind (l := st l ky) (o := (kd, nd, ky)) (fun e => hK ⟨.inl e, he⟩) (fun e => hK ⟨.inr e, he⟩) (by rw [HER.out]; exact he)
        refine ⟨hk3, ?_⟩
        rw [← HER.out]
        exact err_free (o := (kd, nd, ky)) hk3 (by rw [HER.out]; exact he)
      clear IX PK
      by_cases k12 : kd = 1 ∨ kd = 2
      · have S3 := Lib.hid (SM.out (hS (by omega)))
        have f0 : (er != 0) = true := by simp; omega
        have f6 : (er != 6) = true := by simp; omega
        clear hS SM VL hK
        rcases k12 with rfl | rfl
        all_goals
          go_wp2_with fail
          refine S3.out.mono ?_
          rintro e w6 ⟨rfl, hb⟩
          have B6 := Lib.hid (B4.out.trans (hb.mono B4.out.size))
          clear hb
          go_wp2
          go_ret
          exact ⟨rfl, B6.out⟩
      · by_cases k3 : kd = 3
        · subst k3
          by_cases e0 : er = 0
          · subst e0
            clear hS SM VL hK k12
            go_wp2
            go_ret
            exact ⟨rfl, B4.out⟩
          · have S3 := Lib.hid (SM.out (hS (by omega)))
            have f0 : (er == 0) = false := by simpa using e0
            clear hS SM VL hK k12 e0
            go_wp2_with fail
            refine S3.out.mono ?_
            rintro e w6 ⟨rfl, hb⟩
            have B6 := Lib.hid (B4.out.trans (hb.mono B4.out.size))
            clear hb
            go_wp2
            go_ret
            exact ⟨rfl, B6.out⟩
        · have S3 := Lib.hid (SM.out (hS (by omega)))
          have f1 : (kd != 1) = true := by simp; omega
          have f2 : (kd != 2) = true := by simp; omega
          have f3 : (kd == 3) = false := by simpa using k3
          clear hS SM VL hK k12 k3
          go_wp2_with fail
          refine S3.out.mono ?_
          rintro e w6 ⟨rfl, hb⟩
          have B6 := Lib.hid (B4.out.trans (hb.mono B4.out.size))
          clear hb
          go_wp2
          go_ret
          exact ⟨rfl, B6.out⟩
end Go.Proofs.Ytdkgclgccicbeaa.Lk
