/-
  Package maps: Undo.
-/
import Derived.Test.YtmijjaihedbjgaaMpE
namespace Go.Proofs.Ytmijjaihedbjgaa.Mps
set_option linter.unusedVariables false
set_option linter.unusedSimpArgs false
open Go.RowKit Mem

theorem undrew_ {B : Nat} {W V : World} (h : Below B W.drew V) : Below B W V := ⟨h.os, h.tape, h.output, h.size, h.block⟩
theorem cellsR {W V : World} {a b p q : Value} (h : Laid3 W V a b p q) : V.cell? ⟨W.heap.size + 1 + 1, 0, none⟩ = some (.int .i64 0) ∧ V.cell? ⟨W.heap.size + 1 + 1, 1, none⟩ = some (.slice none 0 0) ∧ V.frozen? ⟨W.heap.size + 1 + 1, 0, none⟩ = false ∧ V.frozen? ⟨W.heap.size + 1 + 1, 1, none⟩ = false :=
  ⟨h.2.2.2.2.1.cell 0, h.2.2.2.2.1.cell 1, h.2.2.2.2.1.free 0, h.2.2.2.2.1.free 1⟩
theorem keptU {V : World} {g i j : Nat} {u v a b c : Value} (h : V.cell? ⟨g, 0, none⟩ = some a ∧ V.cell? ⟨g, 1, none⟩ = some b ∧ V.cell? ⟨g + 1, 1, none⟩ = some c) :
    ((V.setCell ⟨g + 1 + 1, i, none⟩ u).setCell ⟨g + 1 + 1, j, none⟩ v).cell? ⟨g, 0, none⟩ = some a ∧ ((V.setCell ⟨g + 1 + 1, i, none⟩ u).setCell ⟨g + 1 + 1, j, none⟩ v).cell? ⟨g, 1, none⟩ = some b ∧ ((V.setCell ⟨g + 1 + 1, i, none⟩ u).setCell ⟨g + 1 + 1, j, none⟩ v).cell? ⟨g + 1, 1, none⟩ = some c := by
  have e : ∀ (V : World) (q bx p : Nat) (x : Value), g + 1 + 1 ≠ bx → (V.setCell ⟨g + 1 + 1, q, none⟩ x).cell? ⟨bx, p, none⟩ = V.cell? ⟨bx, p, none⟩ := fun V q bx p x h =>
    World.cell?_of_block (Below.heap_setCell V ⟨g + 1 + 1, q, none⟩ x bx (fun e => h e.symm))
  rw [e _ _ _ _ _ (by omega), e _ _ _ _ _ (by omega), e _ _ _ _ _ (by omega), e _ _ _ _ _ (by omega), e _ _ _ _ _ (by omega), e _ _ _ _ _ (by omega)]
  exact h

set_option maxRecDepth 100000 in
set_option maxHeartbeats 8000000 in
theorem undo_c (m1 : Int) (A : Option Addr) (l : List Int) (n c : Nat) (s1 : Int) (C : Option Addr) (cs : List Ch) (q ca : Nat) (W : World) (hn : l.length = n) (hbig : n ≤ 17592186044416) (hx : Reads W A (ints l)) (hq : cs.length = q) (hqb : q ≤ 5864062014805) (hc : CRds W C cs)
    (e0 : Int) (l0 : List Int) (n0 : Nat) (k0 : Int) (hs : Says (unE (m1, l) (s1, cs)) (unM (m1, l) (s1, cs)) e0 l0 n0 k0) :
    Calls Try.prog 15 #[.agg #[.int .i64 m1, .slice A n c], .agg #[.int .i64 s1, .slice C q ca]] W (MapOut e0 l0 n0 k0 W) := by
  have L := Lib.hid (laid3 W (.int .i64 m1) (.slice A n c) (.int .i64 s1) (.slice C q ca))
  have HX := Lib.hid hx
  have HC := Lib.hid hc
  have HN := Lib.hid hn
  have HQ := Lib.hid hq
  have HS := Lib.hid hs
  clear hn hx hq hc hs
  cases h1 : okB m1 n with
  | false =>
    have HE := Lib.hid (HS.out.bad (un_one (.inl ((okB_false (m := (m1, l)) HN.out).1 h1))) (unM_bad (by rw [un_one (.inl ((okB_false (m := (m1, l)) HN.out).1 h1))]; decide)))
    have R := Lib.hid (fun V => right_c m1 A n c V false h1)
    clear h1
    obtain ⟨x0, x1, x2, x3, k3, -⟩ := L.out
    have r0 := k3.cell 0
    have r1 := k3.cell 1
    have f0 := k3.free 0
    have f1 := k3.free 1
    clear k3
    go_enter Try.func15, Try.ntmps15
    go_wp2_with fail
    refine (R.out _).mono ?_
    rintro e w1 ⟨rfl, hb⟩
    have L3 := Lib.hid (L.out.below hb)
    clear hb x0 x1 x2 x3 r0 r1 f0 f1
    obtain ⟨x0, x1, x2, x3, k3, -⟩ := L3.out
    have r0 := k3.cell 0
    have r1 := k3.cell 1
    have f0 := k3.free 0
    have f1 := k3.free 1
    clear k3
    go_wp2
    obtain ⟨rfl, rfl, rfl, rfl⟩ := HE.out
    refine bodyPost_ret (v := .tuple #[.agg #[.int .i64 0, .slice none 0 0], .int .i64 1]) ?_ rfl ⟨none, 0, rfl, Reads.nil, (L3.out.2.2.2.2.2.setCell (by show W.heap.size ≤ W.heap.size + 1 + 1; omega) _).setCell (by show W.heap.size ≤ W.heap.size + 1 + 1; omega) _, fun a h => by cases h⟩
    exact results_row2 rfl _ _ (W.heap.size + 1 + 1) 24 _ (0, 0) _ rfl (known_put L3.out.2.2.2.2.1) fieldsMap sizeMap rfl
  | true =>
    have hm := (okB_iff (m := (m1, l)) HN.out).1 h1
    have H1 := Lib.hid h1
    have R := Lib.hid (fun V => right_c m1 A n c V true h1)
    have CR := Lib.hid (fun V hb b h => rightCh_c C cs q ca V HQ.out hqb (HC.out.below (W := W) (V := V) hb) b h)
    clear h1
    obtain ⟨x0, x1, x2, x3, k3, -⟩ := L.out
    have r0 := k3.cell 0
    have r1 := k3.cell 1
    have f0 := k3.free 0
    have f1 := k3.free 1
    clear k3
    by_cases h2 : okC (-1) cs
    · by_cases h3 : m1 = 0
      · have HE := Lib.hid (HS.out.bad (un_two hm h2 (.inl h3)) (unM_bad (by rw [un_two hm h2 (.inl h3)]; decide)))
        have q1 : (m1 == 0) = true := by simpa using h3
        clear h3 hm
        go_enter Try.func15, Try.ntmps15
        go_wp2_with fail
        refine (R.out _).mono ?_
        rintro e w1 ⟨rfl, hb⟩
        have L2 := Lib.hid (L.out.below hb)
        clear hb x0 x1 x2 x3 r0 r1 f0 f1
        obtain ⟨x0, x1, x2, x3, k3, -⟩ := L2.out
        have r0 := k3.cell 0
        have r1 := k3.cell 1
        have f0 := k3.free 0
        have f1 := k3.free 1
        clear k3
        go_wp2_with fail
        refine (CR.out _ L2.out.2.2.2.2.2 true (decide_eq_true h2)).mono ?_
        rintro e w2 ⟨rfl, hb⟩
        have L3 := Lib.hid (L2.out.below hb)
        clear hb x0 x1 x2 x3 r0 r1 f0 f1 L2
        obtain ⟨x0, x1, x2, x3, k3, -⟩ := L3.out
        have r0 := k3.cell 0
        have r1 := k3.cell 1
        have f0 := k3.free 0
        have f1 := k3.free 1
        clear k3
        go_wp2
        obtain ⟨rfl, rfl, rfl, rfl⟩ := HE.out
        refine bodyPost_ret (v := .tuple #[.agg #[.int .i64 0, .slice none 0 0], .int .i64 2]) ?_ rfl ⟨none, 0, rfl, Reads.nil, (L3.out.2.2.2.2.2.setCell (by show W.heap.size ≤ W.heap.size + 1 + 1; omega) _).setCell (by show W.heap.size ≤ W.heap.size + 1 + 1; omega) _, fun a h => by cases h⟩
        exact results_row2 rfl _ _ (W.heap.size + 1 + 1) 24 _ (0, 0) _ rfl (known_put L3.out.2.2.2.2.1) fieldsMap sizeMap rfl
      · have q1 : (m1 == 0) = false := by simpa using h3
        have wm : IntKind.i64.wrap (m1 - 1) = m1 - 1 := IntWalk.i64_in _ (by have := hm.1; have := hm.2.1; simp at *; omega)
        by_cases h4 : s1 = m1 - 1
        · have CS := Lib.hid (un_says HS.out HN.out H1.out h2 h3 h4)
          have q2 : (s1 != m1 - 1) = false := by simp [h4]
          have H2 := Lib.hid h2
          have RV := Lib.hid (fun V hb => reversed_c C cs q ca V HQ.out hqb (HC.out.below (W := W) (V := V) hb))
          have CG := Lib.hid (fun V hb A' c' h => changed_c (m1 - 1) A l n c A' (cs.map flip) q c' V HN.out hbig (HX.out.below (W := W) (V := V) hb) (by rw [List.length_map]; exact HQ.out) hqb h (okC_flip H2.out) e0 l0 n0 k0 CS.out)
          clear hm h3 h4
          go_enter Try.func15, Try.ntmps15
          go_wp2_with fail
          refine (R.out _).mono ?_
          rintro e w1 ⟨rfl, hb⟩
          have L2 := Lib.hid (L.out.below hb)
          clear hb x0 x1 x2 x3 r0 r1 f0 f1
          obtain ⟨x0, x1, x2, x3, k3, -⟩ := L2.out
          have r0 := k3.cell 0
          have r1 := k3.cell 1
          have f0 := k3.free 0
          have f1 := k3.free 1
          clear k3
          go_wp2_with fail
          refine (CR.out _ L2.out.2.2.2.2.2 true (decide_eq_true h2)).mono ?_
          rintro e w2 ⟨rfl, hb⟩
          have L3 := Lib.hid (L2.out.below hb)
          clear hb x0 x1 x2 x3 r0 r1 f0 f1 L2
          obtain ⟨x0, x1, x2, x3, k3, -⟩ := L3.out
          have r0 := k3.cell 0
          have r1 := k3.cell 1
          have f0 := k3.free 0
          have f1 := k3.free 1
          clear k3
          clear h2
          go_upto_region 5 with fail
          have SK := Lib.hid (show ∀ w, Below w2.heap.size w2 w → w.cell? ⟨W.heap.size, 0, none⟩ = some (.int .i64 m1) ∧ w.cell? ⟨W.heap.size, 1, none⟩ = some (.slice A n c) ∧ w.cell? ⟨W.heap.size + 1, 1, none⟩ = some (.slice C q ca) from fun w hb => ⟨(L3.out.below hb).1, (L3.out.below hb).2.1, (L3.out.below hb).2.2.2.1⟩)
          have GX := Lib.hid (show W.heap.size < w2.heap.size from Nat.lt_trans (by omega) L3.out.2.2.2.2.1.lt)
          have WB := Lib.hid L3.out.2.2.2.2.2
          clear x0 x1 x2 x3
          go_region_held3 (fun w' => w'.cell? ⟨W.heap.size, 0, none⟩ = some (.int .i64 m1) ∧ w'.cell? ⟨W.heap.size, 1, none⟩ = some (.slice A n c) ∧ w'.cell? ⟨W.heap.size + 1, 1, none⟩ = some (.slice C q ca)) (first | exact SK.out _ (below_drew (Below.refl _ _)) | exact SK.out _ K3.out | exact SK.out _ K4.out | exact keptU (SK.out _ K4.out) | go_keep)
            (first
              | (go_at_call 22; refine (RV.out w2.drew (below_drew WB.out)).mono ?_; rintro e w3 ⟨A3, c3, rfl, hr, hb⟩; have R3 := Lib.hid hr; have K3 := Lib.hid (show Below w2.heap.size w2 w3 from undrew_ hb); clear hb hr)
              | (go_at_call 20; refine (CG.out w3 (WB.out.trans (K3.out.mono WB.out.size)) A3 c3 R3.out).mono ?_; rintro e w4 ⟨A4, c4, rfl, hr, hb, hfar⟩; have R4 := Lib.hid hr; have K4 := Lib.hid (show Below w2.heap.size w2 w4 from K3.out.trans (hb.mono K3.out.size)); have FAR := Lib.hid (show W.heap.size ≤ W.heap.size + 1 + 1 ∧ ∀ a, A4 = some a → W.heap.size + 1 + 1 < a.block from ⟨by omega, fun a h => Nat.lt_of_lt_of_le (Nat.lt_of_lt_of_le L3.out.2.2.2.2.1.lt K3.out.size) (hfar a h)⟩); have L4 := Lib.hid (L3.out.below K4.out); clear r0 r1 f0 f1; obtain ⟨r0, r1, f0, f1⟩ := cellsR L4.out; clear hb hr hfar))
          go_wp2
          refine bodyPost_ret (v := .tuple #[.agg #[.int .i64 e0, .slice A4 n0 c4], .int .i64 k0]) ?_ rfl ⟨A4, c4, rfl, ?_, (L4.out.2.2.2.2.2.setCell (by show W.heap.size ≤ W.heap.size + 1 + 1; omega) _).setCell (by show W.heap.size ≤ W.heap.size + 1 + 1; omega) _, fun a h => by have := FAR.out.2 a h; omega⟩
          · exact results_row2 rfl _ _ (W.heap.size + 1 + 1) 24 _ (0, 0) _ rfl (known_put L4.out.2.2.2.2.1) fieldsMap sizeMap rfl
          · exact (R4.out.off (p := ⟨W.heap.size + 1 + 1, 0, none⟩) (fun a h => by have := FAR.out.2 a h; show a.block ≠ W.heap.size + 1 + 1; omega) _).off (p := ⟨W.heap.size + 1 + 1, 1, none⟩) (fun a h => by have := FAR.out.2 a h; show a.block ≠ W.heap.size + 1 + 1; omega) _
        · have HE := Lib.hid (HS.out.bad (un_two hm h2 (.inr h4)) (unM_bad (by rw [un_two hm h2 (.inr h4)]; decide)))
          have q2 : (s1 != m1 - 1) = true := by simpa using h4
          clear hm h3 h4
          go_enter Try.func15, Try.ntmps15
          go_wp2_with fail
          refine (R.out _).mono ?_
          rintro e w1 ⟨rfl, hb⟩
          have L2 := Lib.hid (L.out.below hb)
          clear hb x0 x1 x2 x3 r0 r1 f0 f1
          obtain ⟨x0, x1, x2, x3, k3, -⟩ := L2.out
          have r0 := k3.cell 0
          have r1 := k3.cell 1
          have f0 := k3.free 0
          have f1 := k3.free 1
          clear k3
          go_wp2_with fail
          refine (CR.out _ L2.out.2.2.2.2.2 true (decide_eq_true h2)).mono ?_
          rintro e w2 ⟨rfl, hb⟩
          have L3 := Lib.hid (L2.out.below hb)
          clear hb x0 x1 x2 x3 r0 r1 f0 f1 L2
          obtain ⟨x0, x1, x2, x3, k3, -⟩ := L3.out
          have r0 := k3.cell 0
          have r1 := k3.cell 1
          have f0 := k3.free 0
          have f1 := k3.free 1
          clear k3
          clear h2
          go_wp2
          obtain ⟨rfl, rfl, rfl, rfl⟩ := HE.out
          refine bodyPost_ret (v := .tuple #[.agg #[.int .i64 0, .slice none 0 0], .int .i64 2]) ?_ rfl ⟨none, 0, rfl, Reads.nil, (L3.out.2.2.2.2.2.setCell (by show W.heap.size ≤ W.heap.size + 1 + 1; omega) _).setCell (by show W.heap.size ≤ W.heap.size + 1 + 1; omega) _, fun a h => by cases h⟩
          exact results_row2 rfl _ _ (W.heap.size + 1 + 1) 24 _ (0, 0) _ rfl (known_put L3.out.2.2.2.2.1) fieldsMap sizeMap rfl
    · have HE := Lib.hid (HS.out.bad (un_one (.inr h2)) (unM_bad (by rw [un_one (.inr h2)]; decide)))
      clear hm
      go_enter Try.func15, Try.ntmps15
      go_wp2_with fail
      refine (R.out _).mono ?_
      rintro e w1 ⟨rfl, hb⟩
      have L2 := Lib.hid (L.out.below hb)
      clear hb x0 x1 x2 x3 r0 r1 f0 f1
      obtain ⟨x0, x1, x2, x3, k3, -⟩ := L2.out
      have r0 := k3.cell 0
      have r1 := k3.cell 1
      have f0 := k3.free 0
      have f1 := k3.free 1
      clear k3
      go_wp2_with fail
      refine (CR.out _ L2.out.2.2.2.2.2 false (decide_eq_false h2)).mono ?_
      rintro e w2 ⟨rfl, hb⟩
      have L3 := Lib.hid (L2.out.below hb)
      clear hb x0 x1 x2 x3 r0 r1 f0 f1 L2
      obtain ⟨x0, x1, x2, x3, k3, -⟩ := L3.out
      have r0 := k3.cell 0
      have r1 := k3.cell 1
      have f0 := k3.free 0
      have f1 := k3.free 1
      clear k3
      clear h2
      go_wp2
      obtain ⟨rfl, rfl, rfl, rfl⟩ := HE.out
      refine bodyPost_ret (v := .tuple #[.agg #[.int .i64 0, .slice none 0 0], .int .i64 1]) ?_ rfl ⟨none, 0, rfl, Reads.nil, (L3.out.2.2.2.2.2.setCell (by show W.heap.size ≤ W.heap.size + 1 + 1; omega) _).setCell (by show W.heap.size ≤ W.heap.size + 1 + 1; omega) _, fun a h => by cases h⟩
      exact results_row2 rfl _ _ (W.heap.size + 1 + 1) 24 _ (0, 0) _ rfl (known_put L3.out.2.2.2.2.1) fieldsMap sizeMap rfl

end Go.Proofs.Ytmijjaihedbjgaa.Mps
