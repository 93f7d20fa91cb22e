/-
  Package locks: grant.
-/
import Derived.Test.YtdkgclgccicbeaaLkPd
namespace Go.Proofs.Ytdkgclgccicbeaa.LkP
set_option linter.unusedVariables false
set_option linter.unusedSimpArgs false
open Go.RowKit Mem Gt Lk

set_option maxRecDepth 100000 in
set_option maxHeartbeats 16000000 in
theorem grant_c (N : Nat) (L : Lab) (k : Int) (G : Nat) (s : Sk) (V : World) (hK : Kp N L k G s V) (hb : s.2.1.length + s.2.2.length ≤ 4194304) :
    Calls Try.prog 55 #[.pointer (some ⟨G, 0, none⟩)] V (KOut N L k G V (.tuple #[]) (grantF s.1 s.2.1 s.2.2)) := by
  obtain ⟨t, ht⟩ : ∃ t, t = grantF s.1 s.2.1 s.2.2 := ⟨_, rfl⟩
  obtain ⟨n0, hn0⟩ : ∃ n, s.2.2.length = n := ⟨_, rfl⟩
  rw [← ht]
  have HK := Lib.hid hK
  have HT := Lib.hid ht
  have HB := Lib.hid hb
  have HN0 := Lib.hid hn0
  clear hK hb ht hn0
  go_enter Try.func55, Try.ntmps55
  go_wp2
  go_loopg [2] n0 (fun m p wr => ∃ (L1 : Lab) (al : Bool) (h : List Int) (w : List LO), w.length = m ∧ h.length + w.length ≤ 4194304 ∧ grantF al h w = t ∧ Kp N L1 k G (al, h, w) wr ∧ Mv k L V L1 wr)
  case atStart => exact ⟨L, s.1, s.2.1, s.2.2, HN0.out, HB.out, HT.out.symm, HK.out, Mv.refl _ _ _⟩
  case round =>
    obtain ⟨L1, al, h, w, hm, hbg, hgr, ⟨hv, wv, hr⟩, hmv⟩ := hrel
    clear HK HT HB HN0
    simp only at hr
    obtain ⟨nh, hnh⟩ : ∃ n, h.length = n := ⟨_, rfl⟩
    obtain ⟨H, ch, rfl, hh1, hh2, hh3⟩ := slice_form hr.ht hnh
    obtain ⟨A, cw, rfl, hw1, hw2, hw3⟩ := slice_form hr.wt hm
    have RR := Lib.hid hr
    have MM := Lib.hid hmv
    have c0 : wr.cell? ⟨G, 0, none⟩ = some (.bool al) := hr.bx.cell 0
    have c1 : wr.cell? ⟨G, 1, none⟩ = some (.slice H nh ch) := hr.bx.cell 1
    have c2 : wr.cell? ⟨G, 2, none⟩ = some (.slice A gk cw) := hr.bx.cell 2
    have HNH := Lib.hid hnh
    rcases Nat.eq_zero_or_pos gk with h0 | h0
    · subst h0
      obtain rfl := List.eq_nil_of_length_eq_zero hm
      rw [grantF_nil] at hgr
      have GT := Lib.hid hgr
      clear hmv hr hm hgr hbg hnh hh1 hh2 hh3 hw1 hw2 hw3
      go_wp2
      refine bodyPost_ret (results_none rfl _ _ _) rfl ?_
      exact ⟨rfl, L1, ⟨_, _, by rw [← GT.out]; exact RR.out⟩, MM.out⟩
    · obtain ⟨o, r, rfl⟩ : ∃ o r, w = o :: r := by cases w with
        | nil => simp at hm; omega
        | cons o r => exact ⟨o, r, rfl⟩
      obtain ⟨ga, rfl, hga1, hga2⟩ := hw3 h0
      obtain ⟨x0, x1, x2⟩ := o
      obtain ⟨b', o', e', _, y0, y1, y2⟩ := lo_at (k := 0) (x := (x0, x1, x2)) hr.wt.reads rfl
      injection e' with e'
      injection e' with e1 e2
      subst e1 e2
      simp only [Nat.zero_mul, Nat.add_zero, Nat.zero_add] at y0 y1 y2
      have i1 : (0 : Int) < (gk : Int) := by omega
      have AD := Lib.hid (admits_c G al h H nh ch (x0, x1, x2) wr c0 c1 hnh)
      simp only at AD
      have HM := Lib.hid hm
      have HG := Lib.hid hgr
      have HBG := Lib.hid hbg
      have HWC := Lib.hid (And.intro hw1 hw2)
      have HHC := Lib.hid (And.intro hh1 hh2)
      have KK := Lib.hid (show ∀ (U : World), Below wr.heap.size wr U → U.cell? ⟨G, 2, none⟩ = some (.slice (some ⟨ga, 0, none⟩) gk cw) ∧ U.cell? ⟨ga, 0, none⟩ = some (.int .i64 x0) ∧ U.cell? ⟨ga, 1, none⟩ = some (.int .i64 x1) ∧ U.cell? ⟨ga, 2, none⟩ = some (.int .i64 x2) from fun U hU =>
        ⟨(hU.cell (World.block_lt_of_cell? _ _ c2)).trans c2, (hU.cell (World.block_lt_of_cell? _ _ y0)).trans y0, (hU.cell (World.block_lt_of_cell? _ _ y1)).trans y1, (hU.cell (World.block_lt_of_cell? _ _ y2)).trans y2⟩)
      clear hmv hr hm hgr hbg hnh hh1 hh2 hh3 hw1 hw2 hw3 hga1 hga2 h0
      cases ha : admits al h (x0, x1, x2) with
      | false =>
        rw [ha] at AD
        have EG := Lib.hid (show (al, h, (x0, x1, x2) :: r) = t by rw [← HG.out, grantF_no ha])
        clear ha
        go_wp2_with (go_at_call 61; refine AD.out.mono ?_; rintro e w2 ⟨rfl, hb2⟩)
        refine bodyPost_ret (results_none rfl _ _ _) rfl ?_
        exact ⟨rfl, L1, ⟨_, _, by rw [← EG.out]; exact RR.out.later hb2⟩, MM.out.later hb2⟩
      | true =>
        rw [ha] at AD
        have EG := Lib.hid (show grantF (decide (x0 = 2)) (h ++ [x1]) r = t by rw [← HG.out, grantF_yes ha])
        clear ha
        go_upto_region 1 with (go_at_call 61; refine AD.out.mono ?_; rintro e w2 ⟨rfl, hb2⟩)
        have R2 := Lib.hid (RR.out.later hb2)
        have M2 := Lib.hid (MM.out.later hb2)
        obtain ⟨c2', z0, z1, z2⟩ := KK.out w2 hb2
        clear hb2 c0 c1 c2 y0 y1 y2 RR MM AD KK HG
        obtain ⟨F, hF⟩ : ∃ F, F = w2.heap.size := ⟨_, rfl⟩
        have b3 := low_lit w2 (.cells #[.int .i64 x0, .int .i64 x1, .int .i64 x2] 36)
        have f3 : Known (w2.alloc (.cells #[.int .i64 x0, .int .i64 x1, .int .i64 x2] 36)) F tL #[.int .i64 x0, .int .i64 x1, .int .i64 x2] := by rw [hF]; exact Known.made _ _ _
        have NE := Lib.hid (show (∀ b, (Value.slice H nh ch).ownBlock = some b → b ≠ F) ∧ ga ≠ F ∧ G ≠ F from
          ⟨fun b hb => by have := (R2.out.ht.lt b hb).2; omega, by have := (R2.out.wt.lt ga rfl).2; omega, by have := R2.out.lt; omega⟩)
        go_upto_region 2 with fail
        obtain ⟨w3, hw3⟩ : ∃ w, w = w2.alloc (.cells #[.int .i64 x0, .int .i64 x1, .int .i64 x2] 36) := ⟨_, rfl⟩
        rw [← hw3] at b3 f3
        rw [← hw3]
        rw [← hF]
        have R3 := Lib.hid (R2.out.later b3)
        have M3 := Lib.hid (M2.out.later b3)
        have F3 := Lib.hid f3
        have c3 : w3.cell? ⟨G, 2, none⟩ = some (.slice (some ⟨ga, 0, none⟩) gk cw) := R3.out.bx.cell 2
        have DL : Hid (Calls Try.prog 54 #[.slice (some ⟨ga, 0, none⟩) gk cw, .int .i64 0, .int .i64 1] w3 _) := del_lo N (some ⟨ga, 0, none⟩) ((x0, x1, x2) :: r) gk cw 0 1 w3 HM.out (by have := HBG.out; have := HM.out; simp at *; omega) R3.out.wt (by omega) rfl
        clear hw3 b3 f3 hF c2' z0 z1 z2 R2 M2
        go_wp2_with fail
        refine DL.out.mono ?_
        rintro e w4 ⟨rfl, hT, hg⟩
        have hT' : Tab loE w4 N tL (.slice (some ⟨ga, 0, none⟩) (gk - 1) cw) r := hT
        obtain ⟨r4, m4⟩ := R3.out.wput hg hT' (fun b hb => .inl hb)
        obtain ⟨L2, hL2⟩ : ∃ L2, L2 = name L1 w3.heap.size (.slice (some ⟨ga, 0, none⟩) (gk - 1) cw) (k, 2) := ⟨_, rfl⟩
        rw [← hL2] at r4 m4
        have R4 := Lib.hid r4
        have M4 := Lib.hid (M3.out.trans m4)
        have F4 := Lib.hid (known_gr F3.out hg (fun e => by injection e with e; exact NE.out.2.1 e.symm))
        have c4 : w4.cell? ⟨G, 2, none⟩ = some (.slice (some ⟨ga, 0, none⟩) gk cw) := r4.bx.cell 2
        have f4 : w4.frozen? ⟨G, 2, none⟩ = false := r4.bx.free 2
        clear hT hT' hg r4 m4 hL2 c3 R3 M3 F3 DL
        go_upto_region 3 with fail
        obtain ⟨w5, hw5⟩ : ∃ w, w = w4.setCell ⟨G, 2, none⟩ (.slice (some ⟨ga, 0, none⟩) (gk - 1) cw) := ⟨_, rfl⟩
        rw [← hw5]
        have R5 := Lib.hid (show Raw N L2 k G al (.slice H nh ch) (.slice (some ⟨ga, 0, none⟩) (gk - 1) cw) (.slice H nh ch) h (.slice (some ⟨ga, 0, none⟩) (gk - 1) cw) r w5 by rw [hw5]; exact R4.out.box2 _)
        have M5 := Lib.hid (show Mv k L V L2 w5 by rw [hw5]; exact M4.out.box R4.out.l0 2 _)
        have F5 := Lib.hid (show Known w5 F tL #[.int .i64 x0, .int .i64 x1, .int .i64 x2] by rw [hw5]; exact F4.out.off (p := ⟨G, 2, none⟩) (fun e => NE.out.2.2 e.symm) _)
        have SZ := Lib.hid (show N ≤ w5.heap.size by have h1 := R5.out.lo; have h2 := R5.out.lt; omega)
        have NB := Lib.hid (show nh ≤ 4194304 by have h1 := HBG.out; have h2 := HNH.out; omega)
        have RD := Lib.hid R5.out.drew
        have c5 : w5.cell? ⟨G, 1, none⟩ = some (.slice H nh ch) := R5.out.bx.cell 1
        have p5 : w5.cell? ⟨F, 1, none⟩ = some (.int .i64 x1) := F5.out.cell 1
        have c5d : (w5.drew.alloc (.cells #[.int .i64 x1] 3)).cell? ⟨G, 1, none⟩ = some (.slice H nh ch) := (RD.out.bx.later (low_lit _ _)).cell 1
        have c5e : ((w5.alloc (.cells #[.int .i64 x1] 3)).drew).cell? ⟨G, 1, none⟩ = some (.slice H nh ch) := c5d
        clear hw5 c4 f4 R4 M4 F4
        go_region_law (first
          | (refine step_append_1 (E := erE) elI (by decide) (by rfl) _ _ (by rfl) (B := N) (n := nh) (b := w5.heap.size) (v := .slice H nh ch) (es := h) (y := x1) rfl rfl (RD.out.ht.alloc _) HNH.out (cs := #[.int .i64 x1]) rfl (Known.made _ _ _) (by unfold maxLen; have := NB.out; omega) (by have := NB.out; omega) (by have := SZ.out; simp; omega) ?_; intro g c w8 T8 G8 L8; have KB := known_gr (RD.out.bx.later (low_lit _ (.cells #[.int .i64 x1] 3))) G8.out (fun e => by have := RD.out.l1 _ e.symm; rw [RD.out.l0] at this; injection this with this; injection this with _ this; omega); have c8 := KB.cell 1; have f8 := KB.free 1; simp at c8; clear KB))
        all_goals
          obtain ⟨wa, hwa⟩ : ∃ w, w = w5.drew.alloc (.cells #[.int .i64 x1] 3) := ⟨_, rfl⟩
          have ra : Raw N L2 k G al (.slice H nh ch) (.slice (some ⟨ga, 0, none⟩) (gk - 1) cw) (.slice H nh ch) h (.slice (some ⟨ga, 0, none⟩) (gk - 1) cw) r wa := by rw [hwa]; exact RD.out.later (low_lit _ _)
          have ma : Mv k L V L2 wa := by rw [hwa]; exact M5.out.drew.low _
          have fa : Known wa F tL #[.int .i64 x0, .int .i64 x1, .int .i64 x2] := by rw [hwa]; exact F5.out.later ((Mem.below_drew (Below.refl _ w5)).alloc (Nat.le_refl _) _)
          have ga8 : wa.grownBy w8 (Value.slice H nh ch).ownBlock := by rw [hwa]; exact G8.out
          have la8 : (Value.slice H nh ch).ownBlock = some g ∨ g = wa.heap.size := by rw [hwa]; exact L8.out
          obtain ⟨r8, m8⟩ := ra.hput ga8 T8.out (fun b hb => by
            injection hb with hb
            rcases la8 with e | e
            · exact .inl (e.trans (congrArg some hb))
            · exact .inr (by rw [← e]; exact Nat.le_of_eq hb))
          have F8 := Lib.hid (known_gr fa ga8 (fun e => NE.out.1 F e.symm rfl))
          obtain ⟨L3, hL3⟩ : ∃ L3, L3 = name L2 wa.heap.size (.slice (some ⟨g, 0, none⟩) (nh + 1) c) (k, 1) := ⟨_, rfl⟩
          rw [← hL3] at r8 m8
          have R8 := Lib.hid r8
          have M8 := Lib.hid (ma.trans m8)
          obtain ⟨w9, hw9⟩ : ∃ w, w = w8.setCell ⟨G, 1, none⟩ (.slice (some ⟨g, 0, none⟩) (nh + 1) c) := ⟨_, rfl⟩
          rw [← hw9]
          have R9 := Lib.hid (show Raw N L3 k G al (.slice (some ⟨g, 0, none⟩) (nh + 1) c) (.slice (some ⟨ga, 0, none⟩) (gk - 1) cw) (.slice (some ⟨g, 0, none⟩) (nh + 1) c) (h ++ [x1]) (.slice (some ⟨ga, 0, none⟩) (gk - 1) cw) r w9 by rw [hw9]; exact R8.out.box1 _)
          have M9 := Lib.hid (show Mv k L V L3 w9 by rw [hw9]; exact M8.out.box R8.out.l0 1 _)
          have F9 := Lib.hid (show Known w9 F tL #[.int .i64 x0, .int .i64 x1, .int .i64 x2] by rw [hw9]; exact F8.out.off (p := ⟨G, 1, none⟩) (fun e => NE.out.2.2 e.symm) _)
          have c9 : w9.cell? ⟨G, 0, none⟩ = some (.bool al) := R9.out.bx.cell 0
          have q9 : w9.frozen? ⟨G, 0, none⟩ = false := R9.out.bx.free 0
          have p9 : w9.cell? ⟨F, 0, none⟩ = some (.int .i64 x0) := F9.out.cell 0
          obtain ⟨kk, hkk⟩ : ∃ kk, (x0 == 2) = kk := ⟨_, rfl⟩
          have DK := Lib.hid (show decide (x0 = 2) = kk by rw [← hkk]; by_cases e : x0 = 2 <;> simp [e])
          clear hwa ra ma fa ga8 la8 r8 m8 hL3 hw9 c5 p5 c5d c5e c8 f8
          go_wp2
          go_roundg r.length
          case rel => exact ⟨L3, kk, h ++ [x1], r, rfl, by have := HBG.out; simp at this ⊢; omega, by rw [← DK.out]; exact EG.out, ⟨_, _, R9.out.box0 kk⟩, M9.out.box R9.out.l0 0 _⟩
          case measure => have := HM.out; simp at this; omega
end Go.Proofs.Ytdkgclgccicbeaa.LkP
