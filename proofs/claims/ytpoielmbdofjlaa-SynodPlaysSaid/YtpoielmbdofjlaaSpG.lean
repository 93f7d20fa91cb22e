/-
  Package synod: Play.
-/
import Derived.Test.YtpoielmbdofjlaaSpF
namespace Go.Proofs.Ytpoielmbdofjlaa.Syn
set_option linter.unusedVariables false
set_option linter.unusedSimpArgs false
open Go.RowKit Mem Gt
open Jump (Gave equalZ_c)

theorem infoV : (Try.prog.info? 69).map (fun i => (i.zero, i.size, i.bytes)) = some (some (.agg #[.int .i64 0, .int .i64 0]), 2, 16) := by kernel_rfl
theorem infoA : (Try.prog.info? 31).map (fun i => (i.zero, i.size, i.bytes)) = some (some (.agg #[.int .i64 0, .int .u16 0, .int .i64 0]), 3, 24) := by kernel_rfl
theorem ta (l : List Value) (i : Nat) : l.toArray[i]? = l[i]? := by simp
def zerosV (n : Nat) : Array Value := madeCells #[.int .i64 0, .int .i64 0] (n * 2)
def zerosA (n : Nat) : Array Value := madeCells #[.int .i64 0, .int .u16 0, .int .i64 0] (n * 3)
theorem zerosV_at {n k : Nat} (hk : k < n) : (zerosV n)[k * 2]? = some (.int .i64 0) ∧ (zerosV n)[k * 2 + 1]? = some (.int .i64 0) := by
  constructor
  · unfold zerosV madeCells
    rw [Array.getElem?_map, Array.getElem?_range, if_pos (by omega)]
    simp [show k * 2 % 2 = 0 by omega]
  · unfold zerosV madeCells
    rw [Array.getElem?_map, Array.getElem?_range, if_pos (by omega)]
    simp [show (k * 2 + 1) % 2 = 1 by omega]
theorem flat_zeros (n : Nat) : zerosA n = (flat anE (List.replicate n (0, 0, 0))).toArray := by
  apply Array.ext_getElem?
  intro i
  rw [ta (flat anE (List.replicate n (0, 0, 0))) i]
  by_cases h : i < n * 3
  · obtain ⟨k, j, e, hj⟩ : ∃ k j, i = k * 3 + j ∧ j < 3 := ⟨i / 3, i % 3, by omega, by omega⟩
    subst e
    have hk : k < n := by omega
    unfold zerosA madeCells
    rw [Array.getElem?_map, Array.getElem?_range, if_pos (by omega)]
    have h0 : (List.replicate n ((0, 0, 0) : An))[k]? = some (0, 0, 0) := by rw [List.getElem?_replicate, if_pos hk]
    have : j = 0 ∨ j = 1 ∨ j = 2 := by omega
    rcases this with rfl | rfl | rfl
    · rw [flat_at anE h0 (j := 0) (v := .int .i64 0) rfl]
      simp [show (k * 3 + 0) % 3 = 0 by omega]
    · rw [flat_at anE h0 (j := 1) (v := .int .u16 0) rfl]
      simp [show (k * 3 + 1) % 3 = 1 by omega]
    · rw [flat_at anE h0 (j := 2) (v := .int .i64 0) rfl]
      simp [show (k * 3 + 2) % 3 = 2 by omega]
  · rw [Array.getElem?_eq_none (by unfold zerosA; rw [size_madeCells]; omega), List.getElem?_eq_none (by rw [flat_len, List.length_replicate]; omega)]
theorem makeV (n : Nat) (hn : n ≤ 16) (w : World) :
    (Instr.makeSlice 44 (.int .i64 n) (.int .i64 n)).run Try.prog w = .ok (.slice (some ⟨w.heap.size, 0, none⟩) n n) (w.alloc (.cells (zerosV n) 69)) := by
  obtain ⟨i, hi, hz0, hz1, hz2⟩ := info_parts infoV
  have hb : (i.bytes : Int) * (n : Int) ≤ 281474976710656 := by rw [hz2]; omega
  have hr := run_make (P := Try.prog) w 44 69 i (.agg #[.int .i64 0, .int .i64 0]) Try.underlying44 hi hz0 .i64 .i64 n n (by omega) (by omega) hb (by omega)
  rw [hr]
  simp only [Int.toNat_natCast, hz1]
  rfl
theorem makeA (n : Nat) (hn : n ≤ 400) (w : World) :
    (Instr.makeSlice 23 (.int .i64 n) (.int .i64 n)).run Try.prog w = .ok (.slice (some ⟨w.heap.size, 0, none⟩) n n) (w.alloc (.cells (zerosA n) 31)) := by
  obtain ⟨i, hi, hz0, hz1, hz2⟩ := info_parts infoA
  have hb : (i.bytes : Int) * (n : Int) ≤ 281474976710656 := by rw [hz2]; omega
  have hr := run_make (P := Try.prog) w 23 31 i (.agg #[.int .i64 0, .int .u16 0, .int .i64 0]) Try.underlying23 hi hz0 .i64 .i64 n n (by omega) (by omega) hb (by omega)
  rw [hr]
  simp only [Int.toNat_natCast, hz1]
  rfl
/-- The start: voters, map, council, answers. -/
def mk4 (n no : Nat) (W : World) : World :=
  (((W.alloc (.cells (zerosV n) 69)).alloc (.map #[] 0)).alloc (.cells #[.slice (some ⟨W.heap.size, 0, none⟩) n n, .map (some (W.heap.size + 1))] 47)).alloc (.cells (zerosA no) 31)
theorem co_start (n no : Nat) (W : World) : Co W.heap.size n P0 (fun _ => 0) (mk4 n no W) ∧ Known (mk4 n no W) (W.heap.size + 3) tAn (zerosA no) ∧ Below W.heap.size W (mk4 n no W) := by
  have hs : ∀ (w : World) (o : Obj), (w.alloc o).heap.size = w.heap.size + 1 := fun w o => by simp
  unfold mk4
  obtain ⟨W1, h1⟩ : ∃ W1, W1 = W.alloc (.cells (zerosV n) 69) := ⟨_, rfl⟩
  have e1 : W1.heap.size = W.heap.size + 1 := by rw [h1]; exact hs _ _
  have k1 : Known W1 W.heap.size tV (zerosV n) := by rw [h1]; exact Known.made W _ _
  have b1 : Below W.heap.size W W1 := h1 ▸ low_lit W _
  rw [← h1]
  have m1 := GMap.made W1 (.pointer none)
  obtain ⟨W2, h2⟩ : ∃ W2, W2 = W1.alloc (.map #[] 0) := ⟨_, rfl⟩
  rw [← h2] at m1 ⊢
  have e2 : W2.heap.size = W.heap.size + 2 := by rw [h2, hs, e1]
  have b2 : Below W1.heap.size W1 W2 := h2 ▸ low_lit W1 _
  obtain ⟨W3, h3⟩ : ∃ W3, W3 = W2.alloc (.cells #[.slice (some ⟨W.heap.size, 0, none⟩) n n, .map (some (W.heap.size + 1))] 47) := ⟨_, rfl⟩
  rw [← h3]
  have e3 : W3.heap.size = W.heap.size + 3 := by rw [h3, hs, e2]
  have k3 : Known W3 W2.heap.size tC #[.slice (some ⟨W.heap.size, 0, none⟩) n n, .map (some (W.heap.size + 1))] := by rw [h3]; exact Known.made W2 _ _
  have b3 : Below W2.heap.size W2 W3 := h3 ▸ low_lit W2 _
  obtain ⟨W4, h4⟩ : ∃ W4, W4 = W3.alloc (.cells (zerosA no) 31) := ⟨_, rfl⟩
  rw [← h4]
  have e4 : W4.heap.size = W.heap.size + 4 := by rw [h4, hs, e3]
  have k4 : Known W4 W3.heap.size tAn (zerosA no) := by rw [h4]; exact Known.made W3 _ _
  have b4 : Below W3.heap.size W3 W4 := h4 ▸ low_lit W3 _
  have c3 : Below W2.heap.size W2 W4 := b3.trans (b4.mono b3.size)
  have c2 : Below W1.heap.size W1 W4 := b2.trans (c3.mono b2.size)
  rw [e1] at m1
  rw [e2] at k3
  rw [e3] at k4
  refine ⟨⟨by omega, fun k hk => ?_, ⟨[], KeysOk.nil, fun b => by simp [P0], (m1.later c3).congr (fun x => rfl)⟩, by rw [(k3.later b4).cell 0]; rfl, by rw [(k3.later b4).cell 1]; rfl, fun b hb => by simp [P0] at hb, fun b c hb => by simp [P0] at hb, fun k hk => absurd rfl hk⟩, k4, b1.trans (c2.mono b1.size)⟩
  have q1 := k1.later c2
  obtain ⟨z0, z1⟩ := zerosV_at hk
  exact ⟨by rw [q1.cell, z0]; rfl, by rw [q1.cell, z1]; rfl, q1.free _, q1.free _⟩
theorem box_op {w : World} (o : VO) : let w' := w.alloc (.cells #[.int .i64 o.1, .int .i64 o.2.1, .int .u16 (o.2.2.1 : Nat), .int .i64 o.2.2.2] tOp)
    w'.cell? ⟨w.heap.size, 0, none⟩ = some (.int .i64 o.1) ∧ w'.cell? ⟨w.heap.size, 1, none⟩ = some (.int .i64 o.2.1) ∧ w'.cell? ⟨w.heap.size, 2, none⟩ = some (.int .u16 (o.2.2.1 : Nat)) ∧ w'.cell? ⟨w.heap.size, 3, none⟩ = some (.int .i64 o.2.2.2) := by
  have kn := Known.made w tOp #[.int .i64 o.1, .int .i64 o.2.1, .int .u16 (o.2.2.1 : Nat), .int .i64 o.2.2.2]
  exact ⟨kn.cell 0, kn.cell 1, kn.cell 2, kn.cell 3⟩
/-- Answers, as far as they are given. -/
def ansL (no : Nat) (l : List An) : List An := l ++ List.replicate (no - l.length) (0, 0, 0)
theorem ansL_all {no : Nat} {l : List An} (h : l.length = no) : ansL no l = l := by unfold ansL; rw [h, Nat.sub_self]; simp
theorem ansL_at {no : Nat} {l : List An} (h : l.length < no) : (ansL no l)[l.length]? = some (0, 0, 0) := by
  unfold ansL
  rw [List.getElem?_append_right (Nat.le_refl _), Nat.sub_self, List.getElem?_replicate, if_pos (by omega)]
theorem ansL_set {no : Nat} {l : List An} (h : l.length < no) (x : An) : (ansL no l).set l.length x = ansL no (l ++ [x]) := by
  unfold ansL
  rw [List.set_append_right _ _ (Nat.le_refl _), Nat.sub_self, List.length_append, List.length_singleton, show no - l.length = (no - (l.length + 1)) + 1 by omega, List.replicate_succ, List.set_cons_zero, List.append_assoc]
  rfl
/-- Three cells of a row are written to. -/
theorem put_an {l : List An} {k : Nat} {x y : An} (h : l[k]? = some x) : ((((flat anE l).toArray.setIfInBounds (k * 3) (.int .i64 y.1)).setIfInBounds (k * 3 + 1) (.int .u16 (y.2.1 : Nat))).setIfInBounds (k * 3 + 2) (.int .i64 y.2.2)) = (flat anE (l.set k y)).toArray := by
  have hk := (List.getElem?_eq_some_iff.1 h).1
  apply Array.ext_getElem?
  intro i
  rw [Array.getElem?_setIfInBounds, Array.getElem?_setIfInBounds, Array.getElem?_setIfInBounds, ta, ta]
  simp only [List.size_toArray, Array.size_setIfInBounds, flat_len]
  by_cases hi : i < l.length * 3
  · obtain ⟨q, j, e, hj⟩ : ∃ q j, i = q * 3 + j ∧ j < 3 := ⟨i / 3, i % 3, by omega, by omega⟩
    subst e
    by_cases hq : q = k
    · subst hq
      have hy : (l.set q y)[q]? = some y := by rw [List.getElem?_set_self hk]
      have : j = 0 ∨ j = 1 ∨ j = 2 := by omega
      rcases this with rfl | rfl | rfl
      · rw [flat_at anE hy (j := 0) (v := .int .i64 y.1) rfl, if_neg (by omega), if_neg (by omega), if_pos (by omega), if_pos (by omega)]
      · rw [flat_at anE hy (j := 1) (v := .int .u16 (y.2.1 : Nat)) rfl, if_neg (by omega), if_pos (by omega), if_pos (by omega)]
      · rw [flat_at anE hy (j := 2) (v := .int .i64 y.2.2) rfl, if_pos (by omega), if_pos (by omega)]
    · rw [if_neg (by omega), if_neg (by omega), if_neg (by omega)]
      have hql : q < l.length := by omega
      obtain ⟨z, hz⟩ : ∃ z, l[q]? = some z := ⟨_, List.getElem?_eq_getElem hql⟩
      have hz' : (l.set k y)[q]? = some z := by rw [List.getElem?_set_ne (fun e => hq e.symm)]; exact hz
      obtain ⟨v, hv⟩ : ∃ v, (anE.enc z)[j]? = some v := ⟨_, List.getElem?_eq_getElem (by rw [anE.len]; exact hj)⟩
      rw [flat_at anE hz hv, flat_at anE hz' hv]
  · have e1 : (flat anE l)[i]? = none := List.getElem?_eq_none (by rw [flat_len]; omega)
    have e2 : (flat anE (l.set k y))[i]? = none := List.getElem?_eq_none (by rw [flat_len, List.length_set]; omega)
    rw [e1, e2, if_neg (by omega), if_neg (by omega), if_neg (by omega)]
/-- Behind the first k operations. -/
structure Pl (W : World) (n no : Nat) (p : PS) (g : Nat → Nat) (outs : List An) (w : World) : Prop where
  co : Co W.heap.size n p g w
  an : Known w (W.heap.size + 3) tAn (flat anE (ansL no outs)).toArray
  below : Below W.heap.size W w
theorem Pl.later {W w w' : World} {n no : Nat} {p : PS} {g : Nat → Nat} {outs : List An} (h : Pl W n no p g outs w) (hb : Below w.heap.size w w') : Pl W n no p g outs w' :=
  ⟨h.co.later hb, h.an.later hb, h.below.trans (hb.mono h.below.size)⟩
theorem off3 {B n : Nat} {p : PS} {g : Nat → Nat} {w : World} (h : Co B n p g w) : Off B p g (B + 3) := ⟨by omega, by omega, fun b hb e => by have := (h.ba b hb).1; omega⟩
theorem Pl.move {W w w' : World} {n no : Nat} {p p' : PS} {g g' : Nat → Nat} {outs : List An} (h : Pl W n no p g outs w) (c : Co W.heap.size n p' g' w') (m : Mv W.heap.size p g w w') : Pl W n no p' g' outs w' :=
  ⟨c, m.known h.an (off3 h.co), m.below h.co h.below (Nat.le_refl _)⟩
theorem Pl.put {W w : World} {n no : Nat} {p : PS} {g : Nat → Nat} {outs : List An} (h : Pl W n no p g outs w) (hl : outs.length < no) (y : An) {k : Nat} (hk : outs.length = k) :
    Pl W n no p g (outs ++ [y]) (((w.setCell ⟨W.heap.size + 3, k * 3, none⟩ (.int .i64 y.1)).setCell ⟨W.heap.size + 3, k * 3 + 1, none⟩ (.int .u16 (y.2.1 : Nat))).setCell ⟨W.heap.size + 3, k * 3 + 2, none⟩ (.int .i64 y.2.2)) := by
  subst hk
  have f := off3 h.co
  refine ⟨((h.co.put f (by omega)).put f (by omega)).put f (by omega), ?_, ((h.below.setCell (by show W.heap.size ≤ W.heap.size + 3; omega) _).setCell (by show W.heap.size ≤ W.heap.size + 3; omega) _).setCell (by show W.heap.size ≤ W.heap.size + 3; omega) _⟩
  have := ((h.an.put (outs.length * 3) (.int .i64 y.1)).put (outs.length * 3 + 1) (.int .u16 (y.2.1 : Nat))).put (outs.length * 3 + 2) (.int .i64 y.2.2)
  rw [put_an (ansL_at hl), ansL_set hl] at this
  exact this
theorem Pl.facts {W w : World} {n no : Nat} {p : PS} {g : Nat → Nat} {outs : List An} (h : Pl W n no p g outs w) (hl : outs.length < no) {k : Nat} (hk : outs.length = k) :
    w.cell? ⟨W.heap.size + 3, k * 3, none⟩ = some (.int .i64 0) ∧ w.cell? ⟨W.heap.size + 3, k * 3 + 1, none⟩ = some (.int .u16 0) ∧ w.cell? ⟨W.heap.size + 3, k * 3 + 2, none⟩ = some (.int .i64 0) ∧
    w.frozen? ⟨W.heap.size + 3, k * 3, none⟩ = false ∧ w.frozen? ⟨W.heap.size + 3, k * 3 + 1, none⟩ = false ∧ w.frozen? ⟨W.heap.size + 3, k * 3 + 2, none⟩ = false := by
  subst hk
  have ha := ansL_at hl
  refine ⟨?_, ?_, ?_, h.an.free _, h.an.free _, h.an.free _⟩
  · rw [h.an.cell, ta]; exact flat_at anE ha (j := 0) rfl
  · rw [h.an.cell, ta]; exact flat_at anE ha (j := 1) rfl
  · rw [h.an.cell, ta]; exact flat_at anE ha (j := 2) rfl
set_option maxRecDepth 100000 in
set_option maxHeartbeats 16000000 in
theorem play_ok (n : Nat) (A : Option Addr) (l : List VO) (no ca : Nat) (V : World) (h1 : 1 ≤ n) (h2 : n ≤ 16) (hno : l.length = no) (h4 : no ≤ 400) (hx : Reads V A (flat voE l)) (hf : FitOs l) (cs : List Int) (nc : Nat) (hcs : pchosen n (prun n P0 l).1 = cs) (hnc : cs.length = nc) :
    Calls Try.prog 8 #[.int .i64 n, .slice A no ca] V (PlayOut (prun n P0 l).2 no cs nc 0 V) := by
  have HX := Lib.hid hx
  have HN := Lib.hid hno
  have HF := Lib.hid hf
  have HC := Lib.hid hcs
  have HNC := Lib.hid hnc
  have hmm := @run_makeMap Try.prog
  have mz := fun w => makeV n h2 w
  have ma := fun w => makeA no h4 w
  have i1 : ¬ (n : Int) < 1 := by omega
  have i2 : ¬ (16 : Int) < (n : Int) := by omega
  have i3 : ¬ (400 : Int) < (no : Int) := by omega
  obtain ⟨s1, s2, s3⟩ := co_start n no V
  have ST := Lib.hid (show Pl V n no P0 (fun _ => 0) [] (mk4 n no V) from ⟨s1, by unfold ansL; rw [List.nil_append, List.length_nil, Nat.sub_zero, ← flat_zeros]; exact s2, s3⟩)
  clear hx hno hf hcs hnc s1 s2 s3
  go_enter Try.func8, Try.ntmps8
  go_wp2_with fail
  go_loopw [32] (fun i wr => ∃ (k : Nat) (p : PS) (g : Nat → Nat) (outs : List An), k ≤ no ∧ i = .int .i64 k ∧ prun n P0 (l.take k) = (p, outs) ∧ outs.length = k ∧ Pl V n no p g outs wr) (fun i _ => no - (intOf i).toNat)
  case atStart => exact ⟨0, P0, _, [], by omega, rfl, rfl, rfl, ST.out⟩
  case round =>
    obtain ⟨k, p, g, outs, hk, rfl, hr, ho, hP⟩ := hrel
    clear ST hmm mz ma i1 i2 i3
    have HR := Lib.hid hr
    have HO := Lib.hid ho
    have PP := Lib.hid hP
    by_cases hlt : k < no
    · have kl : k < l.length := by rw [HN.out]; exact hlt
      obtain ⟨⟨oa, ob, oc, od⟩, hx⟩ : ∃ x, l[k]? = some x := ⟨_, List.getElem?_eq_getElem kl⟩
      obtain ⟨fa, fb, fc, fd⟩ := HF.out _ (List.mem_of_getElem? hx)
      obtain ⟨b1, o1, rfl, hb1, y0, y1, y2, y3⟩ := vo_at (HX.out.below hP.below) hx
      have i1 : (k : Int) < (no : Int) := by omega
      obtain ⟨⟨q, xe, xd, xv⟩, hst⟩ : ∃ x, pstep n p (oa, ob, oc, od) = x := ⟨_, rfl⟩
      have ER := Lib.hid (show prun n P0 (l.take (k + 1)) = (q, outs ++ [(xe, xd, xv)]) by
        rw [List.take_add_one, hx]
        show prun n P0 (l.take k ++ [(oa, ob, oc, od)]) = _
        rw [prun_snoc, hr]
        simp only
        rw [hst])
      obtain ⟨d0, d1, d2, d3⟩ := box_op (w := wr) (oa, ob, oc, od)
      simp only at y0 y1 y2 y3 d0 d1 d2 d3 fa fb fc fd
      have P1 := Lib.hid (hP.later (low_lit wr (.cells #[.int .i64 oa, .int .i64 ob, .int .u16 (oc : Nat), .int .i64 od] tOp)))
      have PC := Lib.hid (show Calls Try.prog 17 #[.pointer (some ⟨V.heap.size + 2, 0, none⟩), .agg #[.int .i64 oa, .int .i64 ob, .int .u16 (oc : Nat), .int .i64 od]] (wr.alloc (.cells #[.int .i64 oa, .int .i64 ob, .int .u16 (oc : Nat), .int .i64 od] tOp)) (fun e W' => e = .returned (.agg #[.int .i64 xe, .int .u16 (xd : Nat), .int .i64 xv]) ∧ ∃ g', Pl V n no q g' outs W') by
        refine (perf_c V.heap.size n oa ob oc od p g _ h2 fc P1.out.co).mono ?_
        rw [hst]
        rintro e W' ⟨rfl, g', hC, hM, _⟩
        exact ⟨rfl, g', P1.out.move hC hM⟩)
      clear kl hx hb1 hst hP hr ho fa fb fc fd P1
      have HOL := Lib.hid (show outs.length < no by rw [HO.out]; exact hlt)
      go_wp2_with (go_at_call 17; refine PC.out.mono ?_; rintro e w3 ⟨rfl, g', hP3⟩; obtain ⟨e0, e1, e2, f0, f1, f2⟩ := hP3.facts HOL.out HO.out; have P4 := Lib.hid (hP3.put HOL.out (xe, xd, xv) HO.out); clear hP3 PC y0 y1 y2 y3 d0 d1 d2 d3)
      go_roundw
      case rel => exact ⟨k + 1, q, g', _, by omega, by go_num, ER.out, by rw [List.length_append, HO.out]; rfl, P4.out⟩
      case measure => simp [intOf]; omega
    · obtain rfl : k = no := by omega
      have ET := Lib.hid (show prun n P0 l = (p, outs) by rw [← hr, List.take_of_length_le (by rw [HN.out]; exact Nat.le_refl _)])
      have CC := Lib.hid (show Calls Try.prog 18 #[.pointer (some ⟨V.heap.size + 2, 0, none⟩)] wr (fun e W' => ∃ C d, e = .returned (.slice C nc d) ∧ Reads W' C (cs.map (Value.int .i64)) ∧ Below wr.heap.size wr W') from
        chosen_c V.heap.size n p g wr h2 hP.co cs nc (by have := HC.out; rw [ET.out] at this; exact this) HNC.out)
      clear hr ho hP
      go_wp2_with (go_at_call 18; refine CC.out.mono ?_; rintro e w3 ⟨C, d, rfl, hr3, hb3⟩; have R3 := Lib.hid hr3; have P3 := Lib.hid (PP.out.later hb3); clear hr3 hb3 CC)
      go_ret3
      rw [ET.out]
      refine ⟨_, _, _, _, rfl, Nat.le_refl _, ?_, R3.out, P3.out.below⟩
      have := P3.out.an
      rw [ansL_all HO.out] at this
      intro j v hv
      exact ⟨V.heap.size + 3, 0, rfl, this.lt, by rw [Nat.zero_add, this.cell]; simpa using hv⟩
end Go.Proofs.Ytpoielmbdofjlaa.Syn
