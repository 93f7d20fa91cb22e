/-
  Package lease: Play.
-/
import Derived.Test.YteneglbafngejaaLePf
namespace Go.Proofs.Yteneglbafngejaa.LeP
set_option linter.unusedVariables false
set_option linter.unusedSimpArgs false
open Go.RowKit Mem Gt Le

theorem infoN : (Try.prog.info? 49).map (fun i => (i.zero, i.size, i.bytes)) = some (some (.agg #[.int .i64 0, .int .i64 0, .bool false]), 3, 24) := by kernel_rfl
theorem infoA : (Try.prog.info? 29).map (fun i => (i.zero, i.size, i.bytes)) = some (some (.agg #[.int .i64 0, .bool false]), 2, 16) := by kernel_rfl
theorem ta (l : List Value) (i : Nat) : l.toArray[i]? = l[i]? := by simp
def zerosN (n : Nat) : Array Value := madeCells #[.int .i64 0, .int .i64 0, .bool false] (n * 3)
def zerosA (n : Nat) : Array Value := madeCells #[.int .i64 0, .bool false] (n * 2)
theorem zerosN_at {n k : Nat} (hk : k < n) : (zerosN n)[k * 3]? = some (.int .i64 0) ∧ (zerosN n)[k * 3 + 1]? = some (.int .i64 0) ∧ (zerosN n)[k * 3 + 2]? = some (.bool false) := by
  refine ⟨?_, ?_, ?_⟩
  · unfold zerosN madeCells
    rw [Array.getElem?_map, Array.getElem?_range, if_pos (by omega)]
    simp [show k * 3 % 3 = 0 by omega]
  · unfold zerosN madeCells
    rw [Array.getElem?_map, Array.getElem?_range, if_pos (by omega)]
    simp [show (k * 3 + 1) % 3 = 1 by omega]
  · unfold zerosN madeCells
    rw [Array.getElem?_map, Array.getElem?_range, if_pos (by omega)]
    simp [show (k * 3 + 2) % 3 = 2 by omega]
theorem flat_zeros (n : Nat) : zerosA n = (flat laE (List.replicate n (0, false))).toArray := by
  apply Array.ext_getElem?
  intro i
  rw [ta (flat laE (List.replicate n (0, false))) i]
  by_cases h : i < n * 2
  · obtain ⟨k, j, e, hj⟩ : ∃ k j, i = k * 2 + j ∧ j < 2 := ⟨i / 2, i % 2, by omega, by omega⟩
    subst e
    have hk : k < n := by omega
    unfold zerosA madeCells
    rw [Array.getElem?_map, Array.getElem?_range, if_pos (by omega)]
    have h0 : (List.replicate n ((0, false) : LA))[k]? = some (0, false) := by rw [List.getElem?_replicate, if_pos hk]
    have : j = 0 ∨ j = 1 := by omega
    rcases this with rfl | rfl
    · rw [flat_at laE h0 (j := 0) (v := .int .i64 0) rfl]
      simp [show (k * 2 + 0) % 2 = 0 by omega]
    · rw [flat_at laE h0 (j := 1) (v := .bool false) rfl]
      simp [show (k * 2 + 1) % 2 = 1 by omega]
  · rw [Array.getElem?_eq_none (by unfold zerosA; rw [size_madeCells]; omega), List.getElem?_eq_none (by rw [flat_len, List.length_replicate]; omega)]
theorem makeN (n : Nat) (hn : n ≤ 16) (w : World) :
    (Instr.makeSlice 38 (.int .i64 n) (.int .i64 n)).run Try.prog w = .ok (.slice (some ⟨w.heap.size, 0, none⟩) n n) (w.alloc (.cells (zerosN n) 49)) := by
  obtain ⟨i, hi, hz0, hz1, hz2⟩ := info_parts infoN
  have hb : (i.bytes : Int) * (n : Int) ≤ 281474976710656 := by rw [hz2]; omega
  have hr := run_make (P := Try.prog) w 38 49 i (.agg #[.int .i64 0, .int .i64 0, .bool false]) Try.underlying38 hi hz0 .i64 .i64 n n (by omega) (by omega) hb (by omega)
  rw [hr]
  simp only [Int.toNat_natCast, hz1]
  rfl
theorem makeA (n : Nat) (hn : n ≤ 400) (w : World) :
    (Instr.makeSlice 23 (.int .i64 n) (.int .i64 n)).run Try.prog w = .ok (.slice (some ⟨w.heap.size, 0, none⟩) n n) (w.alloc (.cells (zerosA n) 29)) := by
  obtain ⟨i, hi, hz0, hz1, hz2⟩ := info_parts infoA
  have hb : (i.bytes : Int) * (n : Int) ≤ 281474976710656 := by rw [hz2]; omega
  have hr := run_make (P := Try.prog) w 23 29 i (.agg #[.int .i64 0, .bool false]) Try.underlying23 hi hz0 .i64 .i64 n n (by omega) (by omega) hb (by omega)
  rw [hr]
  simp only [Int.toNat_natCast, hz1]
  rfl
/-- The start: nodes, server, answers. -/
def mk3 (m no : Nat) (long off : Int) (W : World) : World :=
  ((W.alloc (.cells (zerosN m) 49)).alloc (.cells #[.int .i64 long, .int .i64 off, .int .i64 0, .int .i64 (-1), .int .i64 0, .slice (some ⟨W.heap.size, 0, none⟩) m m] 40)).alloc (.cells (zerosA no) 29)
theorem co_start (m no : Nat) (long off : Int) (W : World) : Co W.heap.size m long off R0 (mk3 m no long off W) ∧ Known (mk3 m no long off W) (W.heap.size + 2) tAn (zerosA no) ∧ Below W.heap.size W (mk3 m no long off W) := by
  have hs : ∀ (w : World) (o : Obj), (w.alloc o).heap.size = w.heap.size + 1 := fun w o => by simp
  unfold mk3
  obtain ⟨W1, h1⟩ : ∃ W1, W1 = W.alloc (.cells (zerosN m) 49) := ⟨_, rfl⟩
  have e1 : W1.heap.size = W.heap.size + 1 := by rw [h1]; exact hs _ _
  have k1 : Known W1 W.heap.size 49 (zerosN m) := by rw [h1]; exact Known.made W _ _
  have b1 : Below W.heap.size W W1 := h1 ▸ low_lit W _
  rw [← h1]
  obtain ⟨W2, h2⟩ : ∃ W2, W2 = W1.alloc (.cells #[.int .i64 long, .int .i64 off, .int .i64 0, .int .i64 (-1), .int .i64 0, .slice (some ⟨W.heap.size, 0, none⟩) m m] 40) := ⟨_, rfl⟩
  rw [← h2]
  have e2 : W2.heap.size = W.heap.size + 2 := by rw [h2, hs, e1]
  have k2 : Known W2 W1.heap.size tSv (svC W.heap.size m long off 0 (-1) 0) := by rw [h2]; exact Known.made W1 _ _
  have b2 : Below W1.heap.size W1 W2 := h2 ▸ low_lit W1 _
  obtain ⟨W3, h3⟩ : ∃ W3, W3 = W2.alloc (.cells (zerosA no) 29) := ⟨_, rfl⟩
  rw [← h3]
  have k3 : Known W3 W2.heap.size tAn (zerosA no) := by rw [h3]; exact Known.made W2 _ _
  have b3 : Below W2.heap.size W2 W3 := h3 ▸ low_lit W2 _
  have c2 : Below W1.heap.size W1 W3 := b2.trans (b3.mono b2.size)
  rw [e1] at k2
  rw [e2] at k3
  have q1 := k1.later c2
  refine ⟨⟨k2.later b3, fun k hk => ?_, fun i => q1.free i⟩, k3, b1.trans (c2.mono b1.size)⟩
  obtain ⟨z0, z1, z2⟩ := zerosN_at hk
  exact ⟨by rw [q1.cell, z0]; rfl, by rw [q1.cell, z1]; rfl, by rw [q1.cell, z2]; rfl⟩
/-- Answers, as far as they are given. -/
def ansL (no : Nat) (l : List LA) : List LA := l ++ List.replicate (no - l.length) (0, false)
theorem ansL_all {no : Nat} {l : List LA} (h : l.length = no) : ansL no l = l := by unfold ansL; rw [h, Nat.sub_self]; simp
theorem ansL_at {no : Nat} {l : List LA} (h : l.length < no) : (ansL no l)[l.length]? = some (0, false) := by
  unfold ansL
  rw [List.getElem?_append_right (Nat.le_refl _), Nat.sub_self, List.getElem?_replicate, if_pos (by omega)]
theorem ansL_set {no : Nat} {l : List LA} (h : l.length < no) (x : LA) : (ansL no l).set l.length x = ansL no (l ++ [x]) := by
  unfold ansL
  rw [List.set_append_right _ _ (Nat.le_refl _), Nat.sub_self, List.length_append, List.length_singleton, show no - l.length = (no - (l.length + 1)) + 1 by omega, List.replicate_succ, List.set_cons_zero, List.append_assoc]
  rfl
/-- Two cells of a row are written to. -/
theorem put_an {l : List LA} {k : Nat} {x y : LA} (h : l[k]? = some x) : (((flat laE l).toArray.setIfInBounds (k * 2) (.int .i64 y.1)).setIfInBounds (k * 2 + 1) (.bool y.2)) = (flat laE (l.set k y)).toArray := by
  have hk := (List.getElem?_eq_some_iff.1 h).1
  apply Array.ext_getElem?
  intro i
  rw [Array.getElem?_setIfInBounds, Array.getElem?_setIfInBounds, ta, ta]
  simp only [List.size_toArray, Array.size_setIfInBounds, flat_len]
  by_cases hi : i < l.length * 2
  · obtain ⟨q, j, e, hj⟩ : ∃ q j, i = q * 2 + j ∧ j < 2 := ⟨i / 2, i % 2, by omega, by omega⟩
    subst e
    by_cases hq : q = k
    · subst hq
      have hy : (l.set q y)[q]? = some y := by rw [List.getElem?_set_self hk]
      have : j = 0 ∨ j = 1 := by omega
      rcases this with rfl | rfl
      · rw [flat_at laE hy (j := 0) (v := .int .i64 y.1) rfl, if_neg (by omega), if_pos (by omega), if_pos (by omega)]
      · rw [flat_at laE hy (j := 1) (v := .bool y.2) rfl, if_pos (by omega), if_pos (by omega)]
    · rw [if_neg (by omega), if_neg (by omega)]
      have hql : q < l.length := by omega
      obtain ⟨z, hz⟩ : ∃ z, l[q]? = some z := ⟨_, List.getElem?_eq_getElem hql⟩
      have hz' : (l.set k y)[q]? = some z := by rw [List.getElem?_set_ne (fun e => hq e.symm)]; exact hz
      obtain ⟨v, hv⟩ : ∃ v, (laE.enc z)[j]? = some v := ⟨_, List.getElem?_eq_getElem (by rw [laE.len]; exact hj)⟩
      rw [flat_at laE hz hv, flat_at laE hz' hv]
  · have e1 : (flat laE l)[i]? = none := List.getElem?_eq_none (by rw [flat_len]; omega)
    have e2 : (flat laE (l.set k y))[i]? = none := List.getElem?_eq_none (by rw [flat_len, List.length_set]; omega)
    rw [e1, e2, if_neg (by omega), if_neg (by omega)]
/-- Behind the first k operations. -/
structure Pl (W : World) (m no : Nat) (long off : Int) (p : Rs) (outs : List LA) (w : World) : Prop where
  co : Co W.heap.size m long off p w
  an : Known w (W.heap.size + 2) tAn (flat laE (ansL no outs)).toArray
  below : Below W.heap.size W w
section
variable {W w w' : World} {m no : Nat} {long off : Int} {p p' : Rs} {outs : List LA}
theorem Pl.later (h : Pl W m no long off p outs w) (hb : Below w.heap.size w w') : Pl W m no long off p outs w' :=
  ⟨h.co.later hb, h.an.later hb, h.below.trans (hb.mono h.below.size)⟩
theorem Pl.move (h : Pl W m no long off p outs w) (c : Co W.heap.size m long off p' w') (mv : Mv W.heap.size w w') : Pl W m no long off p' outs w' :=
  ⟨c, mv.known h.an (by omega) (by omega), mv.below h.below (Nat.le_refl _)⟩
theorem Pl.put (h : Pl W m no long off p outs w) (hl : outs.length < no) (y : LA) {k : Nat} (hk : outs.length = k) :
    Pl W m no long off p (outs ++ [y]) ((w.setCell ⟨W.heap.size + 2, k * 2, none⟩ (.int .i64 y.1)).setCell ⟨W.heap.size + 2, k * 2 + 1, none⟩ (.bool y.2)) := by
  subst hk
  refine ⟨(h.co.away (by omega) (by omega)).away (by omega) (by omega), ?_, (h.below.setCell (by show W.heap.size ≤ W.heap.size + 2; omega) _).setCell (by show W.heap.size ≤ W.heap.size + 2; omega) _⟩
  have := (h.an.put (outs.length * 2) (.int .i64 y.1)).put (outs.length * 2 + 1) (.bool y.2)
  rw [put_an (ansL_at hl), ansL_set hl] at this
  exact this
theorem Pl.facts (h : Pl W m no long off p outs w) (hl : outs.length < no) {k : Nat} (hk : outs.length = k) :
    w.cell? ⟨W.heap.size + 2, k * 2, none⟩ = some (.int .i64 0) ∧ w.cell? ⟨W.heap.size + 2, k * 2 + 1, none⟩ = some (.bool false) ∧ w.frozen? ⟨W.heap.size + 2, k * 2, none⟩ = false ∧ w.frozen? ⟨W.heap.size + 2, k * 2 + 1, none⟩ = false := by
  subst hk
  have ha := ansL_at hl
  refine ⟨?_, ?_, h.an.free _, h.an.free _⟩
  · rw [h.an.cell, ta]; exact flat_at laE ha (j := 0) rfl
  · rw [h.an.cell, ta]; exact flat_at laE ha (j := 1) rfl
end
set_option maxRecDepth 100000 in
set_option maxHeartbeats 16000000 in
theorem play_ok (m : Nat) (long off : Int) (A : Option Addr) (l : List LO) (no ca : Nat) (V : World) (h1 : 1 ≤ m) (h2 : m ≤ 16) (hlo : 1 ≤ long ∧ long ≤ 1048576) (ho : 0 ≤ off ∧ off ≤ 1048576) (hno : l.length = no) (h4 : no ≤ 400) (hx : Reads V A (flat loE l)) (hf : FitOs l) :
    Calls Try.prog 8 #[.int .i64 m, .int .i64 long, .int .i64 off, .slice A no ca] V (PlayOut (ansR m long off R0 l) no 0 V) := by
  have HX := Lib.hid hx
  have HN := Lib.hid hno
  have HF := Lib.hid hf
  have HL := Lib.hid hlo
  have HO := Lib.hid ho
  have mz := fun w => makeN m h2 w
  have ma := fun w => makeA no h4 w
  have E1 := Lib.hid (show decide (1 ≤ (m : Int) ∧ (m : Int) ≤ 16) = true from decide_eq_true (by omega))
  have E2 := Lib.hid (show decide (1 ≤ long ∧ long ≤ 1048576) = true from decide_eq_true hlo)
  have E3 := Lib.hid (show decide (0 ≤ off ∧ off ≤ 1048576) = true from decide_eq_true ho)
  have i3 : ¬ (400 : Int) < (no : Int) := by omega
  obtain ⟨s1, s2, s3⟩ := co_start m no long off V
  have ST := Lib.hid (show Pl V m no long off R0 [] (mk3 m no long off V) from ⟨s1, by unfold ansL; rw [List.nil_append, List.length_nil, Nat.sub_zero, ← flat_zeros]; exact s2, s3⟩)
  have H2 := Lib.hid h2
  have H4 := Lib.hid h4
  clear hx hno hf s1 s2 s3 hlo ho h1 h2 h4
  go_enter Try.func8, Try.ntmps8
  go_wp2_with (go_at_call 13; refine (isin_c _ _ _ true _ (by with_reducible first | exact E1.out | exact E2.out | exact E3.out)).mono ?_; rintro e w1 ⟨rfl, hw⟩; rw [hw]; clear hw)
  go_loopw [43] (fun i wr => ∃ (k : Nat) (p : Rs) (outs : List LA), k ≤ no ∧ i = .int .i64 k ∧ runR m long off R0 (l.take k) = p ∧ ansR m long off R0 (l.take k) = outs ∧ outs.length = k ∧ Pl V m no long off p outs wr) (fun i _ => no - (intOf i).toNat)
  case atStart => exact ⟨0, R0, [], by omega, rfl, rfl, rfl, rfl, ST.out⟩
  case round =>
    obtain ⟨k, p, outs, hk, rfl, hr, hr2, hlen, hP⟩ := hrel
    clear ST mz ma i3 E1 E2 E3
    have HR := Lib.hid hr
    have HR2 := Lib.hid hr2
    have HOU := Lib.hid hlen
    have PP := Lib.hid hP
    by_cases hlt : k < no
    · have kl : k < l.length := by rw [HN.out]; exact hlt
      obtain ⟨⟨oa, ob, oc⟩, hx⟩ : ∃ x, l[k]? = some x := ⟨_, List.getElem?_eq_getElem kl⟩
      obtain ⟨fa, fb, fc⟩ := HF.out _ (List.mem_of_getElem? hx)
      obtain ⟨b1, o1, rfl, hb1, y0, y1, y2⟩ := lo_at (HX.out.below hP.below) hx
      have i1 : (k : Int) < (no : Int) := by omega
      obtain ⟨⟨⟨xe, xm⟩, q⟩, hst⟩ : ∃ x, perfR m long off p (oa, ob, oc) = x := ⟨_, rfl⟩
      have ER := Lib.hid (show runR m long off R0 (l.take (k + 1)) = q by
        rw [List.take_add_one, hx]
        show runR m long off R0 (l.take k ++ [(oa, ob, oc)]) = _
        rw [runR_snoc, hr, hst])
      have ER2 := Lib.hid (show ansR m long off R0 (l.take (k + 1)) = outs ++ [(xe, xm)] by
        rw [List.take_add_one, hx]
        show ansR m long off R0 (l.take k ++ [(oa, ob, oc)]) = _
        rw [ansR_snoc, hr2, hr, hst])
      obtain ⟨d0, d1, d2⟩ := box_lo (w := wr) (oa, ob, oc)
      simp only at y0 y1 y2 d0 d1 d2 fa fb fc
      have P1 := Lib.hid (hP.later (low_lit wr (.cells #[.int .i64 oa, .int .i64 ob, .int .i64 oc] tOp)))
      have PC := Lib.hid (show Calls Try.prog 14 #[.pointer (some ⟨V.heap.size + 1, 0, none⟩), .agg #[.int .i64 oa, .int .i64 ob, .int .i64 oc]] (wr.alloc (.cells #[.int .i64 oa, .int .i64 ob, .int .i64 oc] tOp)) (fun e W' => e = .returned (.agg #[.int .i64 xe, .bool xm]) ∧ Pl V m no long off q outs W') by
        refine (perf_c V.heap.size m long off oa ob oc p _ H2.out (by rw [← hr]; exact bd_run _ _ (bd0 HO.out.1)) HO.out HL.out fc P1.out.co xe xm q hst).mono ?_
        rintro e W' ⟨rfl, hC, hM⟩
        exact ⟨rfl, P1.out.move hC hM⟩)
      clear kl hx hb1 hst hP hr hr2 hlen fa fb fc P1
      have HOL := Lib.hid (show outs.length < no by rw [HOU.out]; exact hlt)
      go_wp2_with (go_at_call 14; refine PC.out.mono ?_; rintro e w3 ⟨rfl, hP3⟩; obtain ⟨e0, e1, f0, f1⟩ := hP3.facts HOL.out HOU.out; have P4 := Lib.hid (hP3.put HOL.out (xe, xm) HOU.out); clear hP3 PC y0 y1 y2 d0 d1 d2)
      go_roundw
      case rel => exact ⟨k + 1, q, _, by omega, by go_num, ER.out, ER2.out, by rw [List.length_append, HOU.out]; rfl, P4.out⟩
      case measure => simp [intOf]; omega
    · obtain rfl : k = no := by omega
      have ET := Lib.hid (show ansR m long off R0 l = outs by rw [← hr2, List.take_of_length_le (by rw [HN.out]; exact Nat.le_refl _)])
      have CB := Lib.hid (show k ≤ 9223372036854775807 by have := H4.out; omega)
      clear hr hr2 hlen hP
      go_wp2
      go_ret2
      rw [ET.out]
      refine ⟨_, _, rfl, ⟨Nat.le_refl _, CB.out⟩, ?_, PP.out.below⟩
      have := PP.out.an
      rw [ansL_all HOU.out] at this
      intro j v hv
      exact ⟨V.heap.size + 2, 0, rfl, this.lt, by rw [Nat.zero_add, this.cell]; simpa using hv⟩
end Go.Proofs.Yteneglbafngejaa.LeP
