/-
  The law SynodOld over what it takes of the program.
-/
import Derived.Test.YtpoielmbdofjlaaSyClone
namespace Go.Proofs.Ytpoielmbdofjlaa.Syn
set_option linter.unusedVariables false
set_option linter.unusedSimpArgs false
open Go.RowKit Mem Gt
open Jump (Gave equalZ_c)

def pOp : VO := (1, 400, 65535, 0)
theorem play_late {m : Int} {l : List VO} {o : VO} {n : Nat} (hn : l.length = n) (h : playE m (n + 2) = 0) (hl : ∀ o ∈ l, o.2.1 ≠ 400) (ho : o.2.1 ≠ 400) :
    playE m (n + 1) = 0 ∧ (playA m (l ++ [pOp, o])).length = n + 2 ∧ (∃ x, (playA m (l ++ [pOp, o]))[n + 1]? = some x ∧ x.2.1 = 0) ∧ playC m (l ++ [pOp, o]) = playC m (l ++ [pOp]) := by
  have hv := playE_vals m (n + 2)
  rcases hv with ⟨_, h1, h16, h400⟩ | h2
  · have e1 : playE m (n + 1) = 0 := by unfold playE; rw [if_neg (by omega)]
    have len2 : (l ++ [pOp, o]).length = n + 2 := by simp [hn]
    have len1 : (l ++ [pOp]).length = n + 1 := by simp [hn]
    obtain ⟨q1, q2⟩ := late (n := m.toNat) (by omega) hl ho
    refine ⟨e1, ?_, ?_, ?_⟩
    · unfold playA; rw [len2, if_pos h, run_len, len2]
    · unfold playA
      rw [len2, if_pos h, run_app]
      refine ⟨(step m.toNat (step m.toNat (run m.toNat S0 l).1 pOp).1 o).2, ?_, q1⟩
      rw [List.getElem?_append_right (by rw [run_len]; omega), run_len, hn, show n + 1 - n = 1 by omega]
      rfl
    · unfold playC
      rw [len2, if_pos h, len1, if_pos e1, run_app, run_app]
      exact q2
  · rw [h] at h2; cases h2
theorem fit_p : FitO pOp := by unfold FitO Fit pOp; simp
theorem fit_app {l : List VO} (h : FitOs l) {ks : List VO} (hk : FitOs ks) : FitOs (l ++ ks) := fun o ho => by
  rcases List.mem_append.1 ho with ho | ho
  · exact h o ho
  · exact hk o ho
set_option maxRecDepth 100000 in
set_option maxHeartbeats 16000000 in
theorem old_w (hP : PlaySpec) (m : Int) (A : Option Addr) (l : List VO) (n ca : Nat) (o0 o1 : Int) (o2 : Nat) (o3 : Int) (W : World) (hm : Fit m) (hn : l.length = n) (hbig : n ≤ 4398046511104) (hx : Reads W A (flat voE l)) (hf : FitOs l) (ho : FitO (o0, o1, o2, o3)) :
    Calls Try.prog 7 #[.int .i64 m, .slice A n ca, .agg #[.int .i64 o0, .int .i64 o1, .int .u16 (o2 : Nat), .int .i64 o3]] W (Law.Yes W) := by
  have AL := Lib.hid (fun V => alive_c hP V)
  have HX := Lib.hid hx
  have HN := Lib.hid hn
  obtain ⟨W0, hW0⟩ : ∃ W0, W0 = W.alloc (.cells #[.int .i64 o0, .int .i64 o1, .int .u16 (o2 : Nat), .int .i64 o3] 37) := ⟨_, rfl⟩
  have B0 := Lib.hid (show Below W.heap.size W W0 by rw [hW0]; exact below_lit W _)
  obtain ⟨k0, k1, k2, k3⟩ := box_vo (w := W) (o0, o1, o2, o3)
  simp only at k0 k1 k2 k3
  rw [← hW0] at k0 k1 k2 k3
  have SK := Lib.hid (show ∀ w, Below W0.heap.size W0 w → w.cell? ⟨W.heap.size, 0, none⟩ = some (.int .i64 o0) ∧ w.cell? ⟨W.heap.size, 1, none⟩ = some (.int .i64 o1) ∧ w.cell? ⟨W.heap.size, 2, none⟩ = some (.int .u16 (o2 : Nat)) ∧ w.cell? ⟨W.heap.size, 3, none⟩ = some (.int .i64 o3) from fun w h =>
    ⟨(h.cell (World.block_lt_of_cell? _ _ k0)).trans k0, (h.cell (World.block_lt_of_cell? _ _ k1)).trans k1, (h.cell (World.block_lt_of_cell? _ _ k2)).trans k2, (h.cell (World.block_lt_of_cell? _ _ k3)).trans k3⟩)
  obtain ⟨r, hr⟩ : ∃ r, l.any (fun o => o.2.1 == 400) = r := ⟨_, rfl⟩
  have CC := Lib.hid (fun (Y : World) (hY : Below W.heap.size W Y) => contains_o 0 (fun o => o.2.1 == 400) A l n ca Y hn (by omega) (hx.below hY) hf r hr (fun V o _ _ => old1_c o V))
  have E0 := Lib.hid hW0
  clear k0 k1 k2 k3
  cases r with
  | true =>
    clear hx hf hn hm hr ho hW0
    go_enter Try.func7, Try.ntmps7
    go_wp2_with fail
    rw [← E0.out]
    refine (AL.out _).mono ?_
    rintro e w1 ⟨rfl, hb⟩
    have B1 := Lib.hid (B0.out.trans (hb.mono B0.out.size))
    clear hb
    go_wp2_with fail
    refine (CC.out _ B1.out).mono ?_
    rintro e w2 ⟨rfl, hb⟩
    have B2 := Lib.hid (B1.out.trans (hb.mono B1.out.size))
    clear hb
    go_wp2
    go_ret
    exact ⟨rfl, B2.out⟩
  | false =>
    have hl : ∀ o ∈ l, o.2.1 ≠ 400 := fun o h e => by
      have : l.any (fun o => o.2.1 == 400) = true := List.any_eq_true.2 ⟨o, h, by simp [e]⟩
      rw [hr] at this; cases this
    obtain ⟨al, hal⟩ : ∃ al, playA m (l ++ [pOp, (o0, o1, o2, o3)]) = al := ⟨_, rfl⟩
    obtain ⟨na, hna⟩ : ∃ na, al.length = na := ⟨_, rfl⟩
    obtain ⟨cs, hcs⟩ : ∃ cs, playC m (l ++ [pOp, (o0, o1, o2, o3)]) = cs := ⟨_, rfl⟩
    obtain ⟨nc, hnc⟩ : ∃ nc, cs.length = nc := ⟨_, rfl⟩
    obtain ⟨bl, hbl⟩ : ∃ bl, playA m (l ++ [pOp]) = bl := ⟨_, rfl⟩
    obtain ⟨nb, hnb⟩ : ∃ nb, bl.length = nb := ⟨_, rfl⟩
    obtain ⟨ds, hds⟩ : ∃ ds, playC m (l ++ [pOp]) = ds := ⟨_, rfl⟩
    obtain ⟨nd, hnd⟩ : ∃ nd, ds.length = nd := ⟨_, rfl⟩
    obtain ⟨e2, he2⟩ : ∃ e2, playE m (n + 2) = e2 := ⟨_, rfl⟩
    obtain ⟨e1, he1⟩ : ∃ e1, playE m (n + 1) = e1 := ⟨_, rfl⟩
    have len2 : (l ++ [pOp, (o0, o1, o2, o3)]).length = n + 2 := by simp [hn]
    have len1 : (l ++ [pOp]).length = n + 1 := by simp [hn]
    have f2 : FitOs (l ++ [pOp, (o0, o1, o2, o3)]) := fit_app hf (fun o h => by simp at h; rcases h with rfl | rfl; exact fit_p; exact ho)
    have f1 : FitOs (l ++ [pOp]) := fit_app hf (fun o h => by simp at h; subst h; exact fit_p)
    have P2 := Lib.hid (fun A c V (h : Reads V A (flat voE (l ++ [pOp, (o0, o1, o2, o3)]))) => hP m A _ (n + 2) c V al na cs nc e2 hm len2 (by omega) h f2 he2 hal hna hcs hnc)
    have P1 := Lib.hid (fun A c V (h : Reads V A (flat voE (l ++ [pOp]))) => hP m A _ (n + 1) c V bl nb ds nd e1 hm len1 (by omega) h f1 he1 hbl hnb hds hnd)
    have CL := Lib.hid (fun V (h : Below W.heap.size W V) => clone_vo A l n ca V hn hbig (HX.out.below h))
    have FIN := Lib.hid (fun (h : e2 = 0) (h4 : o1 ≠ 400) => by
      have := play_late (o := (o0, o1, o2, o3)) hn (he2.trans h) hl h4
      rw [hal, hcs, hds, he1, hna] at this
      exact this)
    have E1Z := Lib.hid (fun (h : e2 = 0) => show e1 = 0 from by
      rw [← he1]
      rcases playE_vals m (n + 2) with ⟨_, h1, h2, h3⟩ | h2
      · unfold playE; rw [if_neg (by omega)]
      · rw [he2, h] at h2; cases h2)
    have BAD := Lib.hid (show e2 = 0 ∨ e2 = 2 from by
      rcases playE_vals m (n + 2) with h | h
      · exact .inl (he2 ▸ h.1)
      · exact .inr (he2 ▸ h))
    have HC := Lib.hid hnc
    have HD := Lib.hid hnd
    have NC := Lib.hid (show nc ≤ 400 by rw [← hnc, ← hcs]; exact playC_len _ _)
    have ND := Lib.hid (show nd ≤ 400 by rw [← hnd, ← hds]; exact playC_len _ _)
    have N1 := Lib.hid hbig
    clear hx hf hn hm hr ho hW0 hal hna hcs hnc hbl hnb hds hnd he2 he1 len1 len2 f1 f2 hl hbig
    go_enter Try.func7, Try.ntmps7
    go_wp2_with fail
    rw [← E0.out]
    refine (AL.out _).mono ?_
    rintro e w1 ⟨rfl, hb⟩
    have B1 := Lib.hid (show Below W0.heap.size W0 w1 from hb)
    clear hb
    go_wp2_with fail
    refine (CC.out _ (B0.out.trans (B1.out.mono B0.out.size))).mono ?_
    rintro e w2 ⟨rfl, hb⟩
    have B2 := Lib.hid (B1.out.trans (hb.mono B1.out.size))
    clear hb
    obtain ⟨V, hV⟩ : ∃ V : World, V = w2 := ⟨_, rfl⟩
    rw [← hV] at B2 ⊢
    clear hV
    obtain ⟨x0, x1, x2, x3⟩ := SK.out V B2.out
    have BW := Lib.hid (B0.out.trans (B2.out.mono B0.out.size))
    go_upto_region 5 with fail
    go_cut [7, 8, 9] (fun va vc ve wx => ∃ A2 a2 C2 c2, va = .slice A2 na a2 ∧ vc = .slice C2 nc c2 ∧ ve = .int .i64 e2 ∧ Reads wx A2 (flat anE al) ∧ Reads wx C2 (cs.map (Value.int .i64)) ∧ Below V.heap.size V wx)
    case first =>
      obtain ⟨cl, hcl⟩ : ∃ cl : Array Value, cl = #[.int .i64 1, .int .i64 400, .int .u16 65535, .int .i64 0, .int .i64 o0, .int .i64 o1, .int .u16 (o2 : Nat), .int .i64 o3] := ⟨_, rfl⟩
      have LT := Lib.hid (show cl.toList = flat voE [pOp, (o0, o1, o2, o3)] by rw [hcl]; rfl)
      have D0 := Lib.hid (show Below W.heap.size W V.drew from below_drew BW.out)
      have LB := Lib.hid (show Below V.heap.size V (V.drew.alloc (.cells cl 37)) from (below_drew (Below.refl _ _)).alloc (Nat.le_refl _) _)
      have D1 := Lib.hid (show Below W.heap.size W (V.drew.alloc (.cells cl 37)) from BW.out.trans (LB.out.mono BW.out.size))
      have SV := Lib.hid (fun w (h : Below V.heap.size V w) => SK.out w (B2.out.trans (h.mono B2.out.size)))
      rw [hcl] at LT LB D1
      clear hcl x0 x1 x2 x3
      go_region_held3 (fun w => w.cell? ⟨W.heap.size, 0, none⟩ = some (.int .i64 o0) ∧ w.cell? ⟨W.heap.size, 1, none⟩ = some (.int .i64 o1) ∧ w.cell? ⟨W.heap.size, 2, none⟩ = some (.int .u16 (o2 : Nat)) ∧ w.cell? ⟨W.heap.size, 3, none⟩ = some (.int .i64 o3))
        (first | exact SV.out _ (below_drew (Below.refl _ _)) | exact SV.out _ K5.out | exact SV.out _ K4.out | exact SV.out _ (K3.out.alloc K3.out.size _) | exact SV.out _ K3.out | exact SV.out _ LB.out | go_keep)
        (first | (go_at_call 15; refine (CL.out _ (by first | exact D0.out | exact D1.out)).mono ?_; rintro e w3 ⟨A3, c3, rfl, hT, hb⟩; have T3 := Lib.hid hT; have HB3 := Lib.hid hb; have K3 := Lib.hid (show Below V.heap.size V w3 from by first | exact undrewS hb | exact LB.out.trans (hb.mono LB.out.size)); clear hT hb) | (refine step_append_g elVO (by decide) rfl _ _ (by rfl) (n := n) (m := 2) (c := 2) (b := w3.heap.size) (o' := 0) (v := .slice A3 n c3) (es := l) (ys := [pOp, (o0, o1, o2, o3)]) (AD := some ⟨w3.heap.size, 0, none⟩) (by rfl) (by rfl) rfl (T3.out.alloc _) HN.out (reads_lit w3 _ rfl) rfl (by have := N1.out; unfold maxLen; omega) (by have := N1.out; omega) (by have := K3.out.size; simp; omega) ?_; intro A4 c4 w4 T4 G4; have K4 := Lib.hid ((T3.out.alloc _).below G4.out (K3.out.alloc K3.out.size _) (by simp) (by have := K3.out.size; simp; omega))) | (refine step_append_g elVO (by decide) rfl _ _ (by rfl) (n := n) (m := 2) (c := 2) (b := V.heap.size) (o' := 0) (v := .slice A3 n c3) (es := l) (ys := [pOp, (o0, o1, o2, o3)]) (AD := some ⟨V.heap.size, 0, none⟩) (by rfl) (by rfl) rfl T3.out HN.out ((reads_lit V.drew _ rfl).below HB3.out) rfl (by have := N1.out; unfold maxLen; omega) (by have := N1.out; omega) (by have := HB3.out.size; omega) ?_; intro A4 c4 w4 T4 G4; have K4 := Lib.hid (T3.out.below G4.out K3.out (by simp) K3.out.size)) | (go_at_call 8; refine (P2.out _ _ _ T4.out.reads).mono ?_; rintro e w5 ⟨A2, a2, C2, c2, rfl, _, ha, hc, hb⟩; have RA := Lib.hid ha; have RC := Lib.hid hc; have K5 := Lib.hid (K4.out.trans (hb.mono K4.out.size)); clear ha hc hb))
      all_goals
        go_wp2_with fail
        go_meet
        exact ⟨A2, a2, C2, c2, rfl, rfl, rfl, RA.out, RC.out, K5.out⟩
    case rest =>
      obtain ⟨A2, a2, C2, c2, rfl, rfl, rfl, ha, hc, hb⟩ := hcut
      have RA := Lib.hid ha
      have RC := Lib.hid hc
      have B3 := Lib.hid (show Below V.heap.size V wc from hb)
      obtain ⟨V2, hV2⟩ : ∃ V2 : World, V2 = wc := ⟨_, rfl⟩
      rw [← hV2] at RA RC B3 ⊢
      clear ha hc hb hV2 x0 x1 x2 x3
      have BW2 := Lib.hid (BW.out.trans (B3.out.mono BW.out.size))
      go_wp2_with (first | (go_at_call 15; refine (CL.out _ BW2.out).mono ?_; rintro e w3 ⟨A3, c3, rfl, hT, hb⟩; have T3 := Lib.hid hT; have K3 := Lib.hid (show Below V2.heap.size V2 w3 from hb); clear hT hb) | (refine wpList_append_gm elVO (by decide) rfl _ _ (by rfl) (n := n) (m := 1) (c := 1) (b := w3.heap.size) (o' := 0) (v := .slice A3 n c3) (es := l) (ys := [pOp]) (AD := some ⟨w3.heap.size, 0, none⟩) (by rfl) (by rfl) rfl (T3.out.alloc _) HN.out (reads_lit w3 _ rfl) rfl (by have := N1.out; unfold maxLen; omega) (by have := N1.out; omega) (by have := K3.out.size; simp; omega) ?_; intro A4 c4 w4 T4 G4; have K4 := Lib.hid ((T3.out.alloc _).below G4.out (K3.out.alloc K3.out.size _) (by simp) (by have := K3.out.size; simp; omega))))
      refine (P1.out _ _ _ T4.out.reads).mono ?_
      rintro e w5 ⟨A6, a6, C6, c6, rfl, _, _, hc, hb⟩
      have RC6 := Lib.hid hc
      have K5 := Lib.hid (K4.out.trans (hb.mono K4.out.size))
      have x1 := (SK.out _ (B2.out.trans ((B3.out.trans (K5.out.mono B3.out.size)).mono B2.out.size))).2.1
      have BZ := Lib.hid (BW2.out.trans (K5.out.mono BW2.out.size))
      clear hc hb
      rcases BAD.out with he | he
      · have hf := E1Z.out he
        subst he hf
        by_cases h4 : o1 = 400
        · have j1 : (o1 == 400) = true := by simpa using h4
          clear h4
          go_wp2
          go_ret
          exact ⟨rfl, BZ.out⟩
        · have j1 : (o1 == 400) = false := by simpa using h4
          obtain ⟨_, q1, ⟨⟨z0, z1, z2⟩, q2, q3⟩, q4⟩ := FIN.out rfl h4
          have q3 : z1 = 0 := q3
          subst q1 q3 q4
          obtain ⟨b1, p1, rfl, hb1, _, y1, _⟩ := an_at (RA.out.below K5.out) q2
          have NS := Lib.hid (show n ≤ 4398046511104 from N1.out)
          have w1 : IntKind.i64.wrap ((n : Int) + 2) = ((n + 2 : Nat) : Int) := by rw [show (n : Int) + 2 = ((n + 2 : Nat) : Int) by omega]; exact IntWalk.i64_in _ (by have := N1.out; omega)
          have w2 : IntKind.i64.wrap ((n : Int) + 1) = ((n + 1 : Nat) : Int) := by rw [show (n : Int) + 1 = ((n + 1 : Nat) : Int) by omega]; exact IntWalk.i64_in _ (by have := N1.out; omega)
          have j2 : (((n + 2 : Nat) : Int) == ((n + 2 : Nat) : Int)) = true := by simp
          have EZ := Lib.hid (show Calls Try.prog 11 #[.slice C2 nc c2, .slice C6 nd c6] w5 (Gave (.bool true) w5) from by
            have h := equalZ_c C2 C6 cs cs nc nd c2 c6 w5 HC.out HD.out (by have := NC.out; omega) (by have := ND.out; omega) (RC.out.below K5.out) RC6.out
            simpa using h)
          clear h4 q2 hb1
          go_wp2_with fail
          refine EZ.out.mono ?_
          rintro e w6 ⟨rfl, hb⟩
          have BY := Lib.hid (BZ.out.trans (hb.mono BZ.out.size))
          clear hb
          go_wp2
          go_ret
          exact ⟨rfl, BY.out⟩
      · subst he
        go_wp2
        go_ret
        exact ⟨rfl, BZ.out⟩
end Go.Proofs.Ytpoielmbdofjlaa.Syn
