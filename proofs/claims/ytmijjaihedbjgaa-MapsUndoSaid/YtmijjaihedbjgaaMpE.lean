/-
  Package maps: Apply, Undo.
-/
import Derived.Test.YtmijjaihedbjgaaMpD
import Derived.Deep.RegionHeld3
import Derived.Deep.DeepCutAuto
import Derived.RegionTactic
namespace Go.Proofs.Ytmijjaihedbjgaa.Mps
set_option linter.unusedVariables false
set_option linter.unusedSimpArgs false
open Go.RowKit Mem

/-- A call's two boxes, and its result's cell. -/
def Laid3 (W V : World) (a b p q : Value) : Prop :=
  V.cell? ⟨W.heap.size, 0, none⟩ = some a ∧ V.cell? ⟨W.heap.size, 1, none⟩ = some b ∧ V.cell? ⟨W.heap.size + 1, 0, none⟩ = some p ∧ V.cell? ⟨W.heap.size + 1, 1, none⟩ = some q ∧
  Known V (W.heap.size + 1 + 1) 24 #[.int .i64 0, .slice none 0 0] ∧ Below W.heap.size W V
theorem Laid3.below {W V U : World} {a b p q : Value} (h : Laid3 W V a b p q) (hb : Below V.heap.size V U) : Laid3 W U a b p q := by
  obtain ⟨h1, h2, h3, h4, h5, h6⟩ := h
  exact ⟨(hb.cell (World.block_lt_of_cell? _ _ h1)).trans h1, (hb.cell (World.block_lt_of_cell? _ _ h2)).trans h2, (hb.cell (World.block_lt_of_cell? _ _ h3)).trans h3, (hb.cell (World.block_lt_of_cell? _ _ h4)).trans h4, h5.later hb, h6.trans (hb.mono h6.size)⟩
theorem laid3 (W : World) (a b p q : Value) : Laid3 W (((W.alloc (.cells #[a, b] 24)).alloc (.cells #[p, q] 27)).alloc (.cells #[.int .i64 0, .slice none 0 0] 24)) a b p q := by
  have k1 := ((Known.made W 24 #[a, b]).alloc (.cells #[p, q] 27)).alloc (.cells #[.int .i64 0, .slice none 0 0] 24)
  have k2 := (Known.made (W.alloc (.cells #[a, b] 24)) 27 #[p, q]).alloc (.cells #[.int .i64 0, .slice none 0 0] 24)
  have k3 := Known.made ((W.alloc (.cells #[a, b] 24)).alloc (.cells #[p, q] 27)) 24 #[.int .i64 0, .slice none 0 0]
  simp only [World.size_alloc] at k2 k3
  exact ⟨k1.cell 0, k1.cell 1, k2.cell 0, k2.cell 1, k3, (((Below.refl _ _).alloc (Nat.le_refl _) _).alloc (by simp) _).alloc (by simp; omega) _⟩
/-- What a step makes of a map, as letters. -/
def Says (E : Int) (M : Mp) (e0 : Int) (l0 : List Int) (n0 : Nat) (k0 : Int) : Prop := E = k0 ∧ M = (e0, l0) ∧ l0.length = n0
theorem Says.bad {E : Int} {M : Mp} {e0 : Int} {l0 : List Int} {n0 : Nat} {k0 k : Int} (h : Says E M e0 l0 n0 k0) (hE : E = k) (hM : M = (0, [])) : e0 = 0 ∧ l0 = [] ∧ n0 = 0 ∧ k0 = k := by
  obtain ⟨h1, h2, h3⟩ := h
  rw [hM] at h2
  injection h2 with h4 h5
  subst h4 h5
  exact ⟨rfl, rfl, h3.symm, by rw [← h1, hE]⟩
theorem ap_says {m1 : Int} {l : List Int} {n : Nat} {s1 : Int} {cs : List Ch} {e0 : Int} {l0 : List Int} {n0 : Nat} {k0 : Int} (h : Says (apE (m1, l) (s1, cs)) (apM (m1, l) (s1, cs)) e0 l0 n0 k0) (hn : l.length = n) (h1 : okB m1 n = true) (h2 : okC (-1) cs) (h3 : m1 ≠ 1099511627776) (h4 : s1 = m1) :
    ChSays (m1 + 1) cs l n e0 l0 n0 k0 := by
  obtain ⟨g1, g2, g3⟩ := h
  have hm := (okB_iff (m := (m1, l)) hn).1 h1
  have he : apE (m1, l) (s1, cs) = chE cs l := by
    unfold apE
    rw [if_neg (by rintro (h | h) <;> contradiction), if_neg h3, if_neg (by simpa using h4)]
  rw [he] at g1
  by_cases h0 : chE cs l = 0
  · refine .inl ⟨h0, ?_⟩
    rw [apM_of (he.trans h0)] at g2
    injection g2 with g2 g4
    exact ⟨g2.symm, g4.symm, by rw [← g3, ← g4, chL_len, hn], by rw [← g1, h0]⟩
  · refine .inr ⟨g1, by rw [← g1]; exact h0, ?_⟩
    rw [apM_bad (by rw [he]; exact h0)] at g2
    injection g2 with g2 g4
    exact ⟨g2.symm, g4.symm, by rw [← g3, ← g4]; rfl⟩
theorem un_says {m1 : Int} {l : List Int} {n : Nat} {s1 : Int} {cs : List Ch} {e0 : Int} {l0 : List Int} {n0 : Nat} {k0 : Int} (h : Says (unE (m1, l) (s1, cs)) (unM (m1, l) (s1, cs)) e0 l0 n0 k0) (hn : l.length = n) (h1 : okB m1 n = true) (h2 : okC (-1) cs) (h3 : m1 ≠ 0) (h4 : s1 = m1 - 1) :
    ChSays (m1 - 1) (cs.map flip) l n e0 l0 n0 k0 := by
  obtain ⟨g1, g2, g3⟩ := h
  have hm := (okB_iff (m := (m1, l)) hn).1 h1
  have he : unE (m1, l) (s1, cs) = chE (cs.map flip) l := by
    unfold unE
    rw [if_neg (by rintro (h | h) <;> contradiction), if_neg (by rintro (h | h) <;> contradiction)]
  rw [he] at g1
  by_cases h0 : chE (cs.map flip) l = 0
  · refine .inl ⟨h0, ?_⟩
    rw [unM_of (he.trans h0)] at g2
    injection g2 with g2 g4
    exact ⟨g2.symm, g4.symm, by rw [← g3, ← g4, chL_len, hn], by rw [← g1, h0]⟩
  · refine .inr ⟨g1, by rw [← g1]; exact h0, ?_⟩
    rw [unM_bad (by rw [he]; exact h0)] at g2
    injection g2 with g2 g4
    exact ⟨g2.symm, g4.symm, by rw [← g3, ← g4]; rfl⟩
theorem ap_one {m : Mp} {s : Sp} (h : ¬ okM m ∨ ¬ okC (-1) s.2) : apE m s = 1 := if_pos h
theorem un_one {m : Mp} {s : Sp} (h : ¬ okM m ∨ ¬ okC (-1) s.2) : unE m s = 1 := if_pos h
theorem ap_four {m : Mp} {s : Sp} (h1 : okM m) (h2 : okC (-1) s.2) (h : m.1 = 1099511627776) : apE m s = 4 := by
  unfold apE; rw [if_neg (by rintro (h | h) <;> contradiction), if_pos h]
theorem ap_two {m : Mp} {s : Sp} (h1 : okM m) (h2 : okC (-1) s.2) (h : m.1 ≠ 1099511627776) (h3 : s.1 ≠ m.1) : apE m s = 2 := by
  unfold apE; rw [if_neg (by rintro (h | h) <;> contradiction), if_neg h, if_pos h3]
theorem un_two {m : Mp} {s : Sp} (h1 : okM m) (h2 : okC (-1) s.2) (h : m.1 = 0 ∨ s.1 ≠ m.1 - 1) : unE m s = 2 := by
  unfold unE; rw [if_neg (by rintro (h | h) <;> contradiction), if_pos h]
/-- The result's cell behind a store. -/
theorem known_put {V : World} {g : Nat} {a b : Value} (h : Known V g 24 #[.int .i64 0, .slice none 0 0]) : Known ((V.setCell ⟨g, 0, none⟩ a).setCell ⟨g, 1, none⟩ b) g 24 #[a, b] := (h.put 0 a).put 1 b

set_option maxRecDepth 100000 in
set_option maxHeartbeats 8000000 in
theorem apply_c (m1 : Int) (A : Option Addr) (l : List Int) (n c : Nat) (s1 : Int) (C : Option Addr) (cs : List Ch) (q ca : Nat) (W : World) (hn : l.length = n) (hbig : n ≤ 17592186044416) (hx : Reads W A (ints l)) (hq : cs.length = q) (hqb : q ≤ 5864062014805) (hc : CRds W C cs)
    (e0 : Int) (l0 : List Int) (n0 : Nat) (k0 : Int) (hs : Says (apE (m1, l) (s1, cs)) (apM (m1, l) (s1, cs)) e0 l0 n0 k0) :
    Calls Try.prog 13 #[.agg #[.int .i64 m1, .slice A n c], .agg #[.int .i64 s1, .slice C q ca]] W (MapOut e0 l0 n0 k0 W) := by
  have L := Lib.hid (laid3 W (.int .i64 m1) (.slice A n c) (.int .i64 s1) (.slice C q ca))
  have HX := Lib.hid hx
  have HC := Lib.hid hc
  have HN := Lib.hid hn
  have HQ := Lib.hid hq
  have HS := Lib.hid hs
  clear hn hx hq hc hs
  cases h1 : okB m1 n with
  | false =>
    have HE := Lib.hid (HS.out.bad (ap_one (.inl ((okB_false (m := (m1, l)) HN.out).1 h1))) (apM_bad (by rw [ap_one (.inl ((okB_false (m := (m1, l)) HN.out).1 h1))]; decide)))
    have R := Lib.hid (fun V => right_c m1 A n c V false h1)
    clear h1
    obtain ⟨x0, x1, x2, x3, k3, -⟩ := L.out
    have r0 := k3.cell 0
    have r1 := k3.cell 1
    have f0 := k3.free 0
    have f1 := k3.free 1
    clear k3
    go_enter Try.func13, Try.ntmps13
    go_wp2_with fail
    refine (R.out _).mono ?_
    rintro e w1 ⟨rfl, hb⟩
    have L3 := Lib.hid (L.out.below hb)
    clear hb x0 x1 x2 x3 r0 r1 f0 f1
    obtain ⟨x0, x1, x2, x3, k3, -⟩ := L3.out
    have r0 := k3.cell 0
    have r1 := k3.cell 1
    have f0 := k3.free 0
    have f1 := k3.free 1
    clear k3
    go_wp2
    obtain ⟨rfl, rfl, rfl, rfl⟩ := HE.out
    refine bodyPost_ret (v := .tuple #[.agg #[.int .i64 0, .slice none 0 0], .int .i64 1]) ?_ rfl ⟨none, 0, rfl, Reads.nil, (L3.out.2.2.2.2.2.setCell (by show W.heap.size ≤ W.heap.size + 1 + 1; omega) _).setCell (by show W.heap.size ≤ W.heap.size + 1 + 1; omega) _, fun a h => by cases h⟩
    exact results_row2 rfl _ _ (W.heap.size + 1 + 1) 24 _ (0, 0) _ rfl (known_put L3.out.2.2.2.2.1) fieldsMap sizeMap rfl
  | true =>
    have hm := (okB_iff (m := (m1, l)) HN.out).1 h1
    have H1 := Lib.hid h1
    have R := Lib.hid (fun V => right_c m1 A n c V true h1)
    have CR := Lib.hid (fun V hb b h => rightCh_c C cs q ca V HQ.out hqb (HC.out.below (W := W) (V := V) hb) b h)
    clear h1
    obtain ⟨x0, x1, x2, x3, k3, -⟩ := L.out
    have r0 := k3.cell 0
    have r1 := k3.cell 1
    have f0 := k3.free 0
    have f1 := k3.free 1
    clear k3
    by_cases h2 : okC (-1) cs
    · by_cases h3 : m1 = 1099511627776
      · have HE := Lib.hid (HS.out.bad (ap_four hm h2 h3) (apM_bad (by rw [ap_four hm h2 h3]; decide)))
        have q1 : (m1 == 1099511627776) = true := by simpa using h3
        clear h3 hm
        go_enter Try.func13, Try.ntmps13
        go_wp2_with fail
        refine (R.out _).mono ?_
        rintro e w1 ⟨rfl, hb⟩
        have L2 := Lib.hid (L.out.below hb)
        clear hb x0 x1 x2 x3 r0 r1 f0 f1
        obtain ⟨x0, x1, x2, x3, k3, -⟩ := L2.out
        have r0 := k3.cell 0
        have r1 := k3.cell 1
        have f0 := k3.free 0
        have f1 := k3.free 1
        clear k3
        go_wp2_with fail
        refine (CR.out _ L2.out.2.2.2.2.2 true (decide_eq_true h2)).mono ?_
        rintro e w2 ⟨rfl, hb⟩
        have L3 := Lib.hid (L2.out.below hb)
        clear hb x0 x1 x2 x3 r0 r1 f0 f1 L2
        obtain ⟨x0, x1, x2, x3, k3, -⟩ := L3.out
        have r0 := k3.cell 0
        have r1 := k3.cell 1
        have f0 := k3.free 0
        have f1 := k3.free 1
        clear k3
        go_wp2
        obtain ⟨rfl, rfl, rfl, rfl⟩ := HE.out
        refine bodyPost_ret (v := .tuple #[.agg #[.int .i64 0, .slice none 0 0], .int .i64 4]) ?_ rfl ⟨none, 0, rfl, Reads.nil, (L3.out.2.2.2.2.2.setCell (by show W.heap.size ≤ W.heap.size + 1 + 1; omega) _).setCell (by show W.heap.size ≤ W.heap.size + 1 + 1; omega) _, fun a h => by cases h⟩
        exact results_row2 rfl _ _ (W.heap.size + 1 + 1) 24 _ (0, 0) _ rfl (known_put L3.out.2.2.2.2.1) fieldsMap sizeMap rfl
      · have q1 : (m1 == 1099511627776) = false := by simpa using h3
        by_cases h4 : s1 = m1
        · have CS := Lib.hid (ap_says HS.out HN.out H1.out h2 h3 h4)
          have q2 : (s1 != m1) = false := by simp [h4]
          have wm : IntKind.i64.wrap (m1 + 1) = m1 + 1 := IntWalk.i64_in _ (by have := hm.1; have := hm.2.1; simp at *; omega)
          have H2 := Lib.hid h2
          clear hm h3 h4
          go_enter Try.func13, Try.ntmps13
          go_wp2_with fail
          refine (R.out _).mono ?_
          rintro e w1 ⟨rfl, hb⟩
          have L2 := Lib.hid (L.out.below hb)
          clear hb x0 x1 x2 x3 r0 r1 f0 f1
          obtain ⟨x0, x1, x2, x3, k3, -⟩ := L2.out
          have r0 := k3.cell 0
          have r1 := k3.cell 1
          have f0 := k3.free 0
          have f1 := k3.free 1
          clear k3
          go_wp2_with fail
          refine (CR.out _ L2.out.2.2.2.2.2 true (decide_eq_true h2)).mono ?_
          rintro e w2 ⟨rfl, hb⟩
          have L3 := Lib.hid (L2.out.below hb)
          clear hb x0 x1 x2 x3 r0 r1 f0 f1 L2
          obtain ⟨x0, x1, x2, x3, k3, -⟩ := L3.out
          have r0 := k3.cell 0
          have r1 := k3.cell 1
          have f0 := k3.free 0
          have f1 := k3.free 1
          clear k3
          clear h2
          go_wp2_with fail
          refine (changed_c (m1 + 1) A l n c C cs q ca w2 HN.out hbig (HX.out.below L3.out.2.2.2.2.2) HQ.out hqb (HC.out.below L3.out.2.2.2.2.2) H2.out e0 l0 n0 k0 CS.out).mono ?_
          rintro e w3 ⟨A4, c4, rfl, hr, hb, hfar⟩
          have FAR := Lib.hid (show W.heap.size ≤ W.heap.size + 1 + 1 ∧ ∀ a, A4 = some a → W.heap.size + 1 + 1 < a.block from ⟨by omega, fun a h => Nat.lt_of_lt_of_le L3.out.2.2.2.2.1.lt (hfar a h)⟩)
          have L4 := Lib.hid (L3.out.below hb)
          have HR := Lib.hid hr
          clear hb hr hfar x0 x1 x2 x3 r0 r1 f0 f1
          obtain ⟨x0, x1, x2, x3, k3, -⟩ := L4.out
          have r0 := k3.cell 0
          have r1 := k3.cell 1
          have f0 := k3.free 0
          have f1 := k3.free 1
          clear k3
          go_wp2
          refine bodyPost_ret (v := .tuple #[.agg #[.int .i64 e0, .slice A4 n0 c4], .int .i64 k0]) ?_ rfl ⟨A4, c4, rfl, ?_, (L4.out.2.2.2.2.2.setCell (by show W.heap.size ≤ W.heap.size + 1 + 1; omega) _).setCell (by show W.heap.size ≤ W.heap.size + 1 + 1; omega) _, fun a h => by have := FAR.out.2 a h; omega⟩
          · exact results_row2 rfl _ _ (W.heap.size + 1 + 1) 24 _ (0, 0) _ rfl (known_put L4.out.2.2.2.2.1) fieldsMap sizeMap rfl
          · exact (HR.out.off (p := ⟨W.heap.size + 1 + 1, 0, none⟩) (fun a h => by have := FAR.out.2 a h; show a.block ≠ W.heap.size + 1 + 1; omega) _).off (p := ⟨W.heap.size + 1 + 1, 1, none⟩) (fun a h => by have := FAR.out.2 a h; show a.block ≠ W.heap.size + 1 + 1; omega) _
        · have HE := Lib.hid (HS.out.bad (ap_two hm h2 h3 h4) (apM_bad (by rw [ap_two hm h2 h3 h4]; decide)))
          have q2 : (s1 != m1) = true := by simpa using h4
          clear hm h3 h4
          go_enter Try.func13, Try.ntmps13
          go_wp2_with fail
          refine (R.out _).mono ?_
          rintro e w1 ⟨rfl, hb⟩
          have L2 := Lib.hid (L.out.below hb)
          clear hb x0 x1 x2 x3 r0 r1 f0 f1
          obtain ⟨x0, x1, x2, x3, k3, -⟩ := L2.out
          have r0 := k3.cell 0
          have r1 := k3.cell 1
          have f0 := k3.free 0
          have f1 := k3.free 1
          clear k3
          go_wp2_with fail
          refine (CR.out _ L2.out.2.2.2.2.2 true (decide_eq_true h2)).mono ?_
          rintro e w2 ⟨rfl, hb⟩
          have L3 := Lib.hid (L2.out.below hb)
          clear hb x0 x1 x2 x3 r0 r1 f0 f1 L2
          obtain ⟨x0, x1, x2, x3, k3, -⟩ := L3.out
          have r0 := k3.cell 0
          have r1 := k3.cell 1
          have f0 := k3.free 0
          have f1 := k3.free 1
          clear k3
          clear h2
          go_wp2
          obtain ⟨rfl, rfl, rfl, rfl⟩ := HE.out
          refine bodyPost_ret (v := .tuple #[.agg #[.int .i64 0, .slice none 0 0], .int .i64 2]) ?_ rfl ⟨none, 0, rfl, Reads.nil, (L3.out.2.2.2.2.2.setCell (by show W.heap.size ≤ W.heap.size + 1 + 1; omega) _).setCell (by show W.heap.size ≤ W.heap.size + 1 + 1; omega) _, fun a h => by cases h⟩
          exact results_row2 rfl _ _ (W.heap.size + 1 + 1) 24 _ (0, 0) _ rfl (known_put L3.out.2.2.2.2.1) fieldsMap sizeMap rfl
    · have HE := Lib.hid (HS.out.bad (ap_one (.inr h2)) (apM_bad (by rw [ap_one (.inr h2)]; decide)))
      clear hm
      go_enter Try.func13, Try.ntmps13
      go_wp2_with fail
      refine (R.out _).mono ?_
      rintro e w1 ⟨rfl, hb⟩
      have L2 := Lib.hid (L.out.below hb)
      clear hb x0 x1 x2 x3 r0 r1 f0 f1
      obtain ⟨x0, x1, x2, x3, k3, -⟩ := L2.out
      have r0 := k3.cell 0
      have r1 := k3.cell 1
      have f0 := k3.free 0
      have f1 := k3.free 1
      clear k3
      go_wp2_with fail
      refine (CR.out _ L2.out.2.2.2.2.2 false (decide_eq_false h2)).mono ?_
      rintro e w2 ⟨rfl, hb⟩
      have L3 := Lib.hid (L2.out.below hb)
      clear hb x0 x1 x2 x3 r0 r1 f0 f1 L2
      obtain ⟨x0, x1, x2, x3, k3, -⟩ := L3.out
      have r0 := k3.cell 0
      have r1 := k3.cell 1
      have f0 := k3.free 0
      have f1 := k3.free 1
      clear k3
      clear h2
      go_wp2
      obtain ⟨rfl, rfl, rfl, rfl⟩ := HE.out
      refine bodyPost_ret (v := .tuple #[.agg #[.int .i64 0, .slice none 0 0], .int .i64 1]) ?_ rfl ⟨none, 0, rfl, Reads.nil, (L3.out.2.2.2.2.2.setCell (by show W.heap.size ≤ W.heap.size + 1 + 1; omega) _).setCell (by show W.heap.size ≤ W.heap.size + 1 + 1; omega) _, fun a h => by cases h⟩
      exact results_row2 rfl _ _ (W.heap.size + 1 + 1) 24 _ (0, 0) _ rfl (known_put L3.out.2.2.2.2.1) fieldsMap sizeMap rfl

end Go.Proofs.Ytmijjaihedbjgaa.Mps
