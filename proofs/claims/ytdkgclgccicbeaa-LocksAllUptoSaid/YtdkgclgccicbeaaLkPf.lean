/-
  Package locks: slices.Contains, slices.Index of numbers; ask.
-/
import Derived.Test.YtdkgclgccicbeaaLkPe
import Derived.Test.YtdkgclgccicbeaaGInts
namespace Go.Proofs.Ytdkgclgccicbeaa.LkP
set_option linter.unusedVariables false
set_option linter.unusedSimpArgs false
open Go.RowKit Mem Gt
open Lk hiding ints

theorem contains_c (A : Option Addr) (l : List Int) (n c : Nat) (x : Int) (W : World) (hn : l.length = n) (hbig : n ≤ 4194304) (hx : Reads W A (l.map (Value.int .i64))) (r : Bool) (hr : decide (x ∈ l) = r) :
    Calls Try.prog 56 #[.slice A n c, .int .i64 x] W fun e W' => e = .returned (.bool r) ∧ W' = W := by
  subst hn hr
  cases l with
  | nil => exact (Try.slices_Contains_int_empty A c x W).mono fun e w' k => ⟨by rw [k.1]; rfl, k.2⟩
  | cons z zs =>
    obtain ⟨b, o, rfl, _, hc⟩ := reads_cells hx (by simp)
    refine (Try.slices_Contains_int b o (z :: zs).length c (z :: zs) x W (Nat.le_refl _) (by omega) hc).mono fun e w' k => ⟨?_, k.2⟩
    rw [k.1, List.take_length]
    congr 2
    simp [List.contains_eq_mem]
def IdxOut (l : List Int) (x : Int) (W : World) (e : Ending) (W' : World) : Prop := ∃ k : Int, ((k = -1 ∧ x ∉ l) ∨ (∃ i : Nat, k = (i : Int) ∧ l[i]? = some x)) ∧ e = .returned (.int .i64 k) ∧ W = W'
theorem index_c (A : Option Addr) (l : List Int) (n c : Nat) (x : Int) (W : World) (hn : l.length = n) (hbig : n ≤ 4194304) (hx : Reads W A (l.map (Value.int .i64))) :
    Calls Try.prog 51 #[.slice A n c, .int .i64 x] W (IdxOut l x W) := by
  subst hn
  cases l with
  | nil => exact (Try.slices_Index_int_empty A c x W).mono fun e w' k => ⟨_, .inl ⟨rfl, by simp⟩, k.1, k.2.symm⟩
  | cons z zs =>
    obtain ⟨b, o, rfl, _, hc⟩ := reads_cells hx (by simp)
    refine (Try.slices_Index_int b o (z :: zs).length c (z :: zs) x W (Nat.le_refl _) (by omega) hc).mono fun e w' k => ?_
    by_cases hin : x ∈ (z :: zs)
    · obtain ⟨i, hi, hix⟩ : ∃ i, i < (z :: zs).length ∧ (z :: zs).getD i 0 = x ∧ ∀ j, j < i → (z :: zs).getD j 0 ≠ x := by
        obtain ⟨i, hi, h1⟩ := List.mem_iff_getElem.1 hin
        have : ∃ m, m < (z :: zs).length ∧ (z :: zs).getD m 0 = x := ⟨i, hi, by rw [List.getD_eq_getElem?_getD, List.getElem?_eq_getElem hi, h1]; rfl⟩
        clear h1 hi i
        obtain ⟨m, hm1, hm2⟩ := this
        induction m using Nat.strongRecOn with
        | ind m ih =>
          by_cases h : ∃ j, j < m ∧ (z :: zs).getD j 0 = x
          · obtain ⟨j, h1, h2⟩ := h
            exact ih j h1 (by omega) h2
          · exact ⟨m, hm1, hm2, fun j hj e => h ⟨j, hj, e⟩⟩
      refine ⟨_, .inr ⟨i, ?_, ?_⟩, k.1, k.2.symm⟩
      · exact Lib.idxOf_hit _ _ i x hi (Nat.le_refl _) hix.1 hix.2
      · have h1 := hix.1
        rw [List.getD_eq_getElem?_getD, List.getElem?_eq_getElem hi] at h1
        rw [List.getElem?_eq_getElem hi]
        exact congrArg some h1
    · refine ⟨_, .inl ⟨Lib.idxOf_miss _ _ x fun j hj e => hin ?_, hin⟩, k.1, k.2.symm⟩
      rw [List.getD_eq_getElem?_getD, List.getElem?_eq_getElem hj] at e
      exact e ▸ List.getElem_mem hj
set_option maxRecDepth 100000 in
set_option maxHeartbeats 16000000 in
theorem ask_c (N : Nat) (L : Lab) (k : Int) (G : Nat) (s : Sk) (o : LO) (V : World) (hK : Kp N L k G s V) (hb : s.2.1.length + s.2.2.length ≤ 4194303) (hi : ∀ b, V.heap.size ≤ b → L b = none) :
    Calls Try.prog 42 #[.pointer (some ⟨G, 0, none⟩), .agg #[.int .i64 o.1, .int .i64 o.2.1, .int .i64 o.2.2]] V (KOut N L k G V (.int .i64 (askF s o).1) (askF s o).2) := by
  obtain ⟨al, h, w⟩ := s
  obtain ⟨x0, x1, x2⟩ := o
  obtain ⟨hv, wv, hr⟩ := hK
  simp only at hr hb ⊢
  obtain ⟨nh, hnh⟩ : ∃ n, h.length = n := ⟨_, rfl⟩
  obtain ⟨nw, hnw⟩ : ∃ n, w.length = n := ⟨_, rfl⟩
  obtain ⟨H, ch, rfl, hh1, hh2, -⟩ := slice_form hr.ht hnh
  obtain ⟨A, cw, rfl, hw1, hw2, -⟩ := slice_form hr.wt hnw
  obtain ⟨P, hP⟩ : ∃ P, P = V.heap.size := ⟨_, rfl⟩
  have b0 := low_lit V (.cells #[.int .i64 x0, .int .i64 x1, .int .i64 x2] 36)
  have p0 : Known (V.alloc (.cells #[.int .i64 x0, .int .i64 x1, .int .i64 x2] 36)) P tL #[.int .i64 x0, .int .i64 x1, .int .i64 x2] := by rw [hP]; exact Known.made _ _ _
  have NE := Lib.hid (show G ≠ P ∧ L P = none from ⟨by have := hr.lt; omega, hi P (by omega)⟩)
  obtain ⟨w0, hw0⟩ : ∃ w, w = V.alloc (.cells #[.int .i64 x0, .int .i64 x1, .int .i64 x2] 36) := ⟨_, rfl⟩
  rw [← hw0] at b0 p0
  have R0 := Lib.hid (hr.later b0)
  have M0 := Lib.hid ((Mv.refl k L V).later b0)
  have P0 := Lib.hid p0
  have HW := Lib.hid hw0
  have HPP := Lib.hid hP
  have HNH := Lib.hid hnh
  have HNW := Lib.hid hnw
  have HB := Lib.hid hb
  have KK := Lib.hid (show ∀ U : World, Below w0.heap.size w0 U → U.cell? ⟨G, 1, none⟩ = some (.slice H nh ch) ∧ U.cell? ⟨P, 1, none⟩ = some (.int .i64 x1) from fun U hU => ⟨(R0.out.later hU).bx.cell 1, (p0.later hU).cell 1⟩)
  obtain ⟨r1, hr1⟩ : ∃ r, decide (x1 ∈ h) = r := ⟨_, rfl⟩
  have CT := Lib.hid (fun (U : World) (hU : Below w0.heap.size w0 U) => contains_c H h nh ch x1 U hnh (by omega) (by have := (R0.out.later hU).ht.reads; rw [flat_er] at this; exact this) r1 hr1)
  have PL := Lib.hid (fun (U : World) (hU : Below w0.heap.size w0 U) => place_c G A nw cw w x1 U ((R0.out.later hU).bx.cell 2) hnw (by omega) (R0.out.later hU).wt.reads)
  obtain ⟨r, hrr⟩ : ∃ r, r = decide (x1 ∈ h ∨ x1 ∈ nodes w) := ⟨_, rfl⟩
  have HR := Lib.hid hrr
  have HR1 := Lib.hid hr1
  clear hr hb hi b0 p0 hw0 hP hnh hnw hh1 hh2 hw1 hw2 hrr hr1
  go_enter Try.func42, Try.ntmps42
  go_upto_region 1 with fail
  rw [← HPP.out, ← HW.out]
  go_cut [18] from 5 to 18 (fun v wx => v = .bool r ∧ Below w0.heap.size w0 wx)
  case first => as_aux_lemma =>
    obtain ⟨c1, p1⟩ := KK.out w0 (Below.refl _ _)
    cases r1 with
    | true =>
      have E := Lib.hid (show r = true by rw [HR.out]; exact decide_eq_true (.inl (of_decide_eq_true HR1.out)))
      go_quiet ((go_at_call 56; exact Calls.quiet_of_same (CT.out _ (by first | exact Below.refl _ _ | exact Mem.below_drewN (Below.refl _ _) _))))
      go_wp2
      go_meet
      exact ⟨by rw [E.out], Mem.below_drewN (Below.refl _ _) _⟩
    | false =>
      have E := Lib.hid (show decide (x1 ∈ nodes w) = r by
        rw [HR.out]
        refine decide_eq_decide.2 ⟨.inr, fun e => e.resolve_left (of_decide_eq_false HR1.out)⟩)
      go_region_held3 (fun u => u.cell? ⟨G, 1, none⟩ = some (.slice H nh ch) ∧ u.cell? ⟨P, 1, none⟩ = some (.int .i64 x1)) (first | go_keep | exact KK.out _ K2.out)
        (first
          | (go_at_call 56; refine (CT.out _ (by first | exact Below.refl _ _ | exact Mem.below_drew (Below.refl _ _))).mono ?_; rintro e w3 ⟨rfl, rfl⟩)
          | (go_at_call 53; refine (PL.out _ (by first | exact Below.refl _ _ | exact Mem.below_drew (Below.refl _ _))).mono ?_; rintro e w2 ⟨x, hf, rfl, hb2⟩; have K2 := Lib.hid (show Below w0.heap.size w0 w2 from by first | exact hb2 | exact (Mem.below_drew (Below.refl _ w0)).trans hb2); have E2 := Lib.hid ((first_nodes hf).trans E.out); clear hf hb2))
      all_goals
        go_wp2
        go_meet
        exact ⟨by rw [E2.out], K2.out⟩
  case rest => 
    obtain ⟨rfl, hb1⟩ := hcut
    obtain ⟨w1, rfl⟩ : ∃ w1 : World, w1 = wc := ⟨_, rfl⟩
    have R1 := Lib.hid (R0.out.later hb1)
    have M1 := Lib.hid (M0.out.later hb1)
    have P1 := Lib.hid (P0.out.later hb1)
    clear hb1 R0 M0 P0 HW KK CT PL HPP
    cases r with
    | true =>
      have E := Lib.hid (show askF (al, h, w) (x0, x1, x2) = (1, (al, h, w)) by unfold askF; rw [if_pos (of_decide_eq_true HR.out.symm)])
      go_wp2
      go_ret
      rw [E.out]
      exact ⟨rfl, L, ⟨_, _, R1.out⟩, M1.out⟩
    | false =>
      obtain ⟨t, ht⟩ : ∃ t, t = grantF al h (w ++ [(x0, x1, x2)]) := ⟨_, rfl⟩
      have EA := Lib.hid (show askF (al, h, w) (x0, x1, x2) = (if x1 ∈ nodes t.2.2 then 6 else 0, t) by rw [ht]; unfold askF; rw [if_neg (of_decide_eq_false HR.out.symm)])
      have HT := Lib.hid ht
      clear ht HR HR1
      have SZ := Lib.hid (show N ≤ w1.heap.size by have h1 := R1.out.lo; have h2 := R1.out.lt; omega)
      have NB := Lib.hid (show nw ≤ 4194303 by have h1 := HB.out; have h2 := HNW.out; omega)
      have RD := Lib.hid R1.out.drew
      have c2 : w1.cell? ⟨G, 2, none⟩ = some (.slice A nw cw) := R1.out.bx.cell 2
      have p0 : w1.cell? ⟨P, 0, none⟩ = some (.int .i64 x0) := P1.out.cell 0
      have p1 : w1.cell? ⟨P, 1, none⟩ = some (.int .i64 x1) := P1.out.cell 1
      have p2 : w1.cell? ⟨P, 2, none⟩ = some (.int .i64 x2) := P1.out.cell 2
      have c2d : (w1.drew.alloc (.cells #[.int .i64 x0, .int .i64 x1, .int .i64 x2] 36)).cell? ⟨G, 2, none⟩ = some (.slice A nw cw) := (RD.out.bx.later (low_lit _ _)).cell 2
      have c2e : ((w1.alloc (.cells #[.int .i64 x0, .int .i64 x1, .int .i64 x2] 36)).drew).cell? ⟨G, 2, none⟩ = some (.slice A nw cw) := c2d
      go_upto_region 3 with fail
      go_region_law (first
        | (refine step_append_1 (E := loE) elLO (by decide) (by rfl) _ _ (by rfl) (B := N) (n := nw) (b := w1.heap.size) (v := .slice A nw cw) (es := w) (y := (x0, x1, x2)) rfl rfl (RD.out.wt.alloc _) HNW.out (cs := #[.int .i64 x0, .int .i64 x1, .int .i64 x2]) rfl (Known.made _ _ _) (by unfold maxLen; have := NB.out; omega) (by have := NB.out; omega) (by have := SZ.out; simp; omega) ?_; intro g c w8 T8 G8 L8; have KB := known_gr (RD.out.bx.later (low_lit _ (.cells #[.int .i64 x0, .int .i64 x1, .int .i64 x2] 36))) G8.out (fun e => by have := RD.out.l2 _ e.symm; rw [RD.out.l0] at this; injection this with this; injection this with _ this; omega); have c8 := KB.cell 2; have f8 := KB.free 2; simp at c8; clear KB))
      all_goals
        obtain ⟨wa, hwa⟩ : ∃ w, w = w1.drew.alloc (.cells #[.int .i64 x0, .int .i64 x1, .int .i64 x2] 36) := ⟨_, rfl⟩
        have ra : Raw N L k G al (.slice H nh ch) (.slice A nw cw) (.slice H nh ch) h (.slice A nw cw) w wa := by rw [hwa]; exact RD.out.later (low_lit _ _)
        have ma : Mv k L V L wa := by rw [hwa]; exact M1.out.drew.low _
        have pa : Known wa P tL #[.int .i64 x0, .int .i64 x1, .int .i64 x2] := by rw [hwa]; exact P1.out.later ((Mem.below_drew (Below.refl _ w1)).alloc (Nat.le_refl _) _)
        have ga8 : wa.grownBy w8 (Value.slice A nw cw).ownBlock := by rw [hwa]; exact G8.out
        have la8 : (Value.slice A nw cw).ownBlock = some g ∨ g = wa.heap.size := by rw [hwa]; exact L8.out
        obtain ⟨r8, m8⟩ := ra.wput ga8 T8.out (fun b hb => by
          injection hb with hb
          rcases la8 with e | e
          · exact .inl (e.trans (congrArg some hb))
          · exact .inr (by rw [← e]; exact Nat.le_of_eq hb))
        obtain ⟨L3, hL3⟩ : ∃ L3, L3 = name L wa.heap.size (.slice (some ⟨g, 0, none⟩) (nw + 1) c) (k, 2) := ⟨_, rfl⟩
        rw [← hL3] at r8 m8
        have LP := Lib.hid (show L3 P = none by rw [m8.agree P pa.lt]; exact NE.out.2)
        have P8 := Lib.hid (m8.known pa (fun j => by rw [NE.out.2]; simp))
        have R8 := Lib.hid r8
        have M8 := Lib.hid (ma.trans m8)
        obtain ⟨w9, hw9⟩ : ∃ w, w = w8.setCell ⟨G, 2, none⟩ (.slice (some ⟨g, 0, none⟩) (nw + 1) c) := ⟨_, rfl⟩
        rw [← hw9]
        have R9 := Lib.hid (show Raw N L3 k G al (.slice H nh ch) (.slice (some ⟨g, 0, none⟩) (nw + 1) c) (.slice H nh ch) h (.slice (some ⟨g, 0, none⟩) (nw + 1) c) (w ++ [(x0, x1, x2)]) w9 by rw [hw9]; exact R8.out.box2 _)
        have M9 := Lib.hid (show Mv k L V L3 w9 by rw [hw9]; exact M8.out.box R8.out.l0 2 _)
        have P9 := Lib.hid (show Known w9 P tL #[.int .i64 x0, .int .i64 x1, .int .i64 x2] by rw [hw9]; exact P8.out.off (p := ⟨G, 2, none⟩) (fun e => NE.out.1 e.symm) _)
        have GC := Lib.hid (grant_c N L3 k G (al, h, w ++ [(x0, x1, x2)]) w9 ⟨_, _, R9.out⟩ (by have := HB.out; simp; omega))
        simp only at GC
        rw [← HT.out] at GC
        clear hwa ra ma pa ga8 la8 r8 m8 hL3 hw9 c2 p0 p1 p2 c2d c2e c8 f8
        go_wp2_with fail
        refine GC.out.mono ?_
        rintro e w10 ⟨rfl, L4, ⟨hv4, wv4, r4⟩, m4⟩
        obtain ⟨nw4, hnw4⟩ : ∃ n, t.2.2.length = n := ⟨_, rfl⟩
        obtain ⟨A4, cw4, rfl, -, -, -⟩ := slice_form r4.wt hnw4
        have p10 : w10.cell? ⟨P, 1, none⟩ = some (.int .i64 x1) := (m4.known P9.out (fun j => by rw [LP.out]; simp)).cell 1
        have PL2 := Lib.hid (place_c G A4 nw4 cw4 t.2.2 x1 w10 (r4.bx.cell 2) hnw4 (by have h1 := grantF_len (w ++ [(x0, x1, x2)]) al h; rw [← HT.out] at h1; have := HB.out; simp at h1; omega) r4.wt.reads)
        have R10 := Lib.hid r4
        have M10 := Lib.hid (M9.out.trans m4)
        clear r4 m4 hnw4
        go_wp2_with fail
        refine PL2.out.mono ?_
        rintro e w11 ⟨x, hf, rfl, hb11⟩
        have R11 := Lib.hid (R10.out.later hb11)
        have M11 := Lib.hid (M10.out.later hb11)
        have E3 := first_nodes hf
        clear hf hb11 p10
        cases hq : decide (x1 ∈ nodes t.2.2) with
        | true =>
          rw [hq] at E3
          have EE := Lib.hid (show askF (al, h, w) (x0, x1, x2) = (6, t) by rw [EA.out, if_pos (of_decide_eq_true hq)])
          clear hq EA
          go_wp2
          go_ret
          rw [EE.out]
          exact ⟨rfl, L4, ⟨_, _, R11.out⟩, M11.out⟩
        | false =>
          rw [hq] at E3
          have EE := Lib.hid (show askF (al, h, w) (x0, x1, x2) = (0, t) by rw [EA.out, if_neg (of_decide_eq_false hq)])
          clear hq EA
          go_wp2
          go_ret
          rw [EE.out]
          exact ⟨rfl, L4, ⟨_, _, R11.out⟩, M11.out⟩
end Go.Proofs.Ytdkgclgccicbeaa.LkP
