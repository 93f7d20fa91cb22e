/-
  Package locks: free; perform of a lock.
-/
import Derived.Test.YtdkgclgccicbeaaLkPf
namespace Go.Proofs.Ytdkgclgccicbeaa.LkP
set_option linter.unusedVariables false
set_option linter.unusedSimpArgs false
open Go.RowKit Mem Gt
open Lk hiding ints

theorem own_slice (A : Option Addr) (n c n' c' : Nat) : (Value.slice A n c).ownBlock = (Value.slice A n' c').ownBlock := by cases A <;> rfl
theorem cut_filter {α : Type} (f : α → Int) (n : Int) : ∀ (l : List α) (i : Nat) (x : α), l[i]? = some x → f x = n → (l.map f).Nodup → l.take i ++ l.drop (i + 1) = l.filter (fun y => !(f y == n))
  | [], i, x, h, _, _ => by simp at h
  | a :: l, 0, x, h, hx, hd => by
    have e : a = x := by simpa using h
    subst e
    rw [List.map_cons, List.nodup_cons] at hd
    have : l.filter (fun y => !(f y == n)) = l := List.filter_eq_self.2 fun y hy => by
      have : f y ≠ n := fun e => hd.1 (List.mem_map.2 ⟨y, hy, e.trans hx.symm⟩)
      simp [this]
    simp [hx, this]
  | a :: l, i + 1, x, h, hx, hd => by
    have h' : l[i]? = some x := by simpa using h
    rw [List.map_cons, List.nodup_cons] at hd
    have ha : f a ≠ n := fun e => hd.1 (List.mem_map.2 ⟨x, List.mem_of_getElem? h', hx.trans e.symm⟩)
    have ih := cut_filter f n l i x h' hx hd.2
    simp only [List.take_succ_cons, List.drop_succ_cons, List.cons_append, ih, List.filter_cons]
    simp [ha]
set_option maxRecDepth 100000 in
set_option maxHeartbeats 16000000 in
theorem free_c (N : Nat) (L : Lab) (k : Int) (G : Nat) (s : Sk) (n : Int) (V : World) (hK : Kp N L k G s V) (hb : s.2.1.length + s.2.2.length ≤ 4194304) (hd1 : s.2.1.Nodup) (hd2 : (nodes s.2.2).Nodup) :
    Calls Try.prog 41 #[.pointer (some ⟨G, 0, none⟩), .int .i64 n] V (KOut N L k G V (.int .i64 (freeF s n).1) (freeF s n).2) := by
  obtain ⟨al, h, w⟩ := s
  obtain ⟨hv, wv, hr⟩ := hK
  simp only at hr hb hd1 hd2 ⊢
  obtain ⟨nh, hnh⟩ : ∃ n, h.length = n := ⟨_, rfl⟩
  obtain ⟨nw, hnw⟩ : ∃ n, w.length = n := ⟨_, rfl⟩
  obtain ⟨H, ch, rfl, hh1, hh2, -⟩ := slice_form hr.ht hnh
  obtain ⟨A, cw, rfl, hw1, hw2, -⟩ := slice_form hr.wt hnw
  have c1 : V.cell? ⟨G, 1, none⟩ = some (.slice H nh ch) := hr.bx.cell 1
  have IX := Lib.hid (index_c H h nh ch n V hnh (by omega) (by have := hr.ht.reads; rw [flat_er] at this; exact this))
  have PL := Lib.hid (place_c G A nw cw w n V (hr.bx.cell 2) hnw (by omega) hr.wt.reads)
  have R0 := Lib.hid hr
  have HNH := Lib.hid hnh
  have HNW := Lib.hid hnw
  have HB := Lib.hid hb
  have D1 := Lib.hid hd1
  have D2 := Lib.hid hd2
  clear hr hb hnh hnw hh1 hh2 hw1 hw2 hd1 hd2
  go_enter Try.func41, Try.ntmps41
  go_wp2_with fail
  refine IX.out.mono ?_
  rintro e w1 ⟨x, hx, rfl, rfl⟩
  rcases hx with ⟨rfl, hx⟩ | ⟨i, rfl, hx⟩
  · have NI := Lib.hid hx
    clear hx
    go_wp2_with fail
    refine PL.out.mono ?_
    rintro e w2 ⟨x, hf, rfl, hb2⟩
    have R2 := Lib.hid (R0.out.later hb2)
    have M2 := Lib.hid ((Mv.refl k L V).later hb2)
    have E3 := first_nodes hf
    rcases hf with ⟨rfl, hf⟩ | ⟨i, o, rfl, h1, h2, _⟩
    · have hq : n ∉ nodes w := of_decide_eq_false E3.symm
      have EE := Lib.hid (show freeF (al, h, w) n = (3, (al, h, w)) by unfold freeF; rw [if_neg NI.out, if_neg hq])
      clear hf hb2 c1 IX PL hq E3
      go_wp2
      go_ret
      rw [EE.out]
      exact ⟨rfl, L, ⟨_, _, R2.out⟩, M2.out⟩
    · have hq : n ∈ nodes w := mem_nodes.2 ⟨o, List.mem_of_getElem? h1, of_decide_eq_true (p := o.2.1 = n) h2⟩
      obtain ⟨t, ht⟩ : ∃ t, t = grantF al h (without w n) := ⟨_, rfl⟩
      have EE := Lib.hid (show freeF (al, h, w) n = (0, t) by unfold freeF; rw [if_neg NI.out, if_pos hq, ht])
      have hi : i < nw := by rw [← HNW.out]; exact (List.getElem?_eq_some_iff.1 h1).1
      have CF := Lib.hid (show w.take i ++ w.drop (i + 1) = without w n from cut_filter (fun o : LO => o.2.1) n w i o h1 (of_decide_eq_true (p := o.2.1 = n) h2) D2.out)
      have c2 : w2.cell? ⟨G, 2, none⟩ = some (.slice A nw cw) := R2.out.bx.cell 2
      have f2 : w2.frozen? ⟨G, 2, none⟩ = false := R2.out.bx.free 2
      have wj : IntKind.i64.wrap ((i : Int) + 1) = (i : Int) + 1 := IntWalk.i64_in _ (by have := HNW.out; have := HB.out; omega)
      have DL : Hid (Calls Try.prog 54 #[.slice A nw cw, .int .i64 i, .int .i64 ((i : Int) + 1)] w2 _) := del_lo N A w nw cw i ((i : Int) + 1) w2 HNW.out (by have := HNW.out; have := HB.out; omega) R2.out.wt hi rfl
      have HT := Lib.hid ht
      clear h1 h2 hb2 c1 IX PL hq E3 hi ht
      go_wp2_with fail
      refine DL.out.mono ?_
      rintro e w4 ⟨rfl, hT, hg⟩
      rw [CF.out] at hT
      obtain ⟨r4, m4⟩ := R2.out.wput hg hT (fun b hb => .inl ((own_slice A _ _ _ _).trans hb))
      obtain ⟨L2, hL2⟩ : ∃ L2, L2 = name L w2.heap.size (.slice A (nw - 1) cw) (k, 2) := ⟨_, rfl⟩
      rw [← hL2] at r4 m4
      have R4 := Lib.hid r4
      have M4 := Lib.hid (M2.out.trans m4)
      have c4 : w4.cell? ⟨G, 2, none⟩ = some (.slice A nw cw) := r4.bx.cell 2
      have f4 : w4.frozen? ⟨G, 2, none⟩ = false := r4.bx.free 2
      clear hT hg r4 m4 hL2 c2 f2 R2 M2 DL
      go_upto_region 8 with fail
      obtain ⟨w5, hw5⟩ : ∃ w, w = w4.setCell ⟨G, 2, none⟩ (.slice A (nw - 1) cw) := ⟨_, rfl⟩
      rw [← hw5]
      have R5 := Lib.hid (show Raw N L2 k G al (.slice H nh ch) (.slice A (nw - 1) cw) (.slice H nh ch) h (.slice A (nw - 1) cw) (without w n) w5 by rw [hw5]; exact R4.out.box2 _)
      have M5 := Lib.hid (show Mv k L V L2 w5 by rw [hw5]; exact M4.out.box R4.out.l0 2 _)
      have GC := Lib.hid (grant_c N L2 k G (al, h, without w n) w5 ⟨_, _, R5.out⟩ (by have h1 := HB.out; have h2 : (without w n).length ≤ w.length := List.length_filter_le _ _; simp only; omega))
      simp only at GC
      rw [← HT.out] at GC
      clear hw5 c4 f4 R4 M4
      go_wp2_with fail
      refine GC.out.mono ?_
      rintro e w6 ⟨rfl, L6, hk6, m6⟩
      have K6 := Lib.hid hk6
      have M6 := Lib.hid (M5.out.trans m6)
      clear hk6 m6
      go_wp2
      go_ret
      rw [EE.out]
      exact ⟨rfl, L6, K6.out, M6.out⟩
  · have hq : n ∈ h := List.mem_of_getElem? hx
    obtain ⟨t, ht⟩ : ∃ t, t = grantF al (h.filter (fun x => x != n)) w := ⟨_, rfl⟩
    have EE := Lib.hid (show freeF (al, h, w) n = (0, t) by unfold freeF; rw [if_pos hq, ht])
    have hi : i < nh := by rw [← HNH.out]; exact (List.getElem?_eq_some_iff.1 hx).1
    have CF := Lib.hid (show h.take i ++ h.drop (i + 1) = h.filter (fun x => x != n) from cut_filter (fun x : Int => x) n h i n hx rfl (by rw [List.map_id']; exact D1.out))
    have f1 : V.frozen? ⟨G, 1, none⟩ = false := R0.out.bx.free 1
    have wj : IntKind.i64.wrap ((i : Int) + 1) = (i : Int) + 1 := IntWalk.i64_in _ (by have := HNH.out; have := HB.out; omega)
    have DL : Hid (Calls Try.prog 52 #[.slice H nh ch, .int .i64 i, .int .i64 ((i : Int) + 1)] V _) := del_in N H h nh ch i ((i : Int) + 1) V HNH.out (by have := HNH.out; have := HB.out; omega) R0.out.ht hi rfl
    have HT := Lib.hid ht
    clear IX PL hq hi ht hx
    go_wp2_with fail
    refine DL.out.mono ?_
    rintro e w4 ⟨rfl, hT, hg⟩
    rw [CF.out] at hT
    obtain ⟨r4, m4⟩ := R0.out.hput hg hT (fun b hb => .inl ((own_slice H _ _ _ _).trans hb))
    obtain ⟨L2, hL2⟩ : ∃ L2, L2 = name L V.heap.size (.slice H (nh - 1) ch) (k, 1) := ⟨_, rfl⟩
    rw [← hL2] at r4 m4
    have R4 := Lib.hid r4
    have M4 := Lib.hid m4
    have c4 : w4.cell? ⟨G, 1, none⟩ = some (.slice H nh ch) := r4.bx.cell 1
    have f4 : w4.frozen? ⟨G, 1, none⟩ = false := r4.bx.free 1
    clear hT hg r4 m4 hL2 c1 f1 R0 DL
    go_upto_region 8 with fail
    obtain ⟨w5, hw5⟩ : ∃ w, w = w4.setCell ⟨G, 1, none⟩ (.slice H (nh - 1) ch) := ⟨_, rfl⟩
    rw [← hw5]
    have R5 := Lib.hid (show Raw N L2 k G al (.slice H (nh - 1) ch) (.slice A nw cw) (.slice H (nh - 1) ch) (h.filter (fun x => x != n)) (.slice A nw cw) w w5 by rw [hw5]; exact R4.out.box1 _)
    have M5 := Lib.hid (show Mv k L V L2 w5 by rw [hw5]; exact M4.out.box R4.out.l0 1 _)
    have GC := Lib.hid (grant_c N L2 k G (al, h.filter (fun x => x != n), w) w5 ⟨_, _, R5.out⟩ (by have h1 := HB.out; have h2 : (h.filter (fun x => x != n)).length ≤ h.length := List.length_filter_le _ _; simp only; omega))
    simp only at GC
    rw [← HT.out] at GC
    clear hw5 c4 f4 R4 M4
    go_wp2_with fail
    refine GC.out.mono ?_
    rintro e w6 ⟨rfl, L6, hk6, m6⟩
    have K6 := Lib.hid hk6
    have M6 := Lib.hid (M5.out.trans m6)
    clear hk6 m6
    go_wp2
    go_ret
    rw [EE.out]
    exact ⟨rfl, L6, K6.out, M6.out⟩
set_option maxRecDepth 100000 in
set_option maxHeartbeats 4000000 in
theorem performK_c (N : Nat) (L : Lab) (k : Int) (G : Nat) (s : Sk) (o : LO) (V : World) (hK : Kp N L k G s V) (hb : s.2.1.length + s.2.2.length ≤ 4194303) (hd1 : s.2.1.Nodup) (hd2 : (nodes s.2.2).Nodup) (hi : ∀ b, V.heap.size ≤ b → L b = none) :
    Calls Try.prog 27 #[.pointer (some ⟨G, 0, none⟩), .agg #[.int .i64 o.1, .int .i64 o.2.1, .int .i64 o.2.2]] V (KOut N L k G V (.int .i64 (performK s o).1) (performK s o).2) := by
  obtain ⟨x0, x1, x2⟩ := o
  have b0 := low_lit V (.cells #[.int .i64 x0, .int .i64 x1, .int .i64 x2] 36)
  obtain ⟨y0, y1, y2⟩ := box_lo (w := V) (x0, x1, x2)
  simp only at y0 y1 y2 ⊢
  have M0 := Lib.hid ((Mv.refl k L V).later b0)
  have h0 := hK.later b0
  by_cases h3 : x0 = 3
  · have EE := Lib.hid (show performK s (x0, x1, x2) = freeF s x1 by unfold performK; rw [if_pos h3])
    have i1 : (x0 == 3) = true := by rw [h3]; rfl
    have FC := Lib.hid (free_c N L k G s x1 _ h0 (by omega) hd1 hd2)
    clear hK hb hd1 hd2 hi b0 h0 h3
    go_enter Try.func27, Try.ntmps27
    go_wp2_with fail
    refine FC.out.mono ?_
    rintro e w6 ⟨rfl, L6, hk6, m6⟩
    have K6 := Lib.hid hk6
    have M6 := Lib.hid (M0.out.trans m6)
    clear hk6 m6 y0 y1 y2
    go_wp2
    go_ret
    rw [EE.out]
    exact ⟨rfl, L6, K6.out, M6.out⟩
  · have EE := Lib.hid (show performK s (x0, x1, x2) = askF s (x0, x1, x2) by unfold performK; rw [if_neg h3])
    have i1 : (x0 == 3) = false := by rw [beq_eq_false_iff_ne]; exact h3
    have AC := Lib.hid (ask_c N L k G s (x0, x1, x2) _ h0 hb (fun b hb => hi b (by simp at hb; omega)))
    simp only at AC
    clear hK hb hd1 hd2 hi b0 h0 h3
    go_enter Try.func27, Try.ntmps27
    go_wp2_with fail
    refine AC.out.mono ?_
    rintro e w6 ⟨rfl, L6, hk6, m6⟩
    have K6 := Lib.hid hk6
    have M6 := Lib.hid (M0.out.trans m6)
    clear hk6 m6 y0 y1 y2
    go_wp2
    go_ret
    rw [EE.out]
    exact ⟨rfl, L6, K6.out, M6.out⟩
end Go.Proofs.Ytdkgclgccicbeaa.LkP
