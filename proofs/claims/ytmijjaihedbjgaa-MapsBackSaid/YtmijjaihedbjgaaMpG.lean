/-
  Package maps: Diff.
-/
import Derived.Test.YtmijjaihedbjgaaMpF
namespace Go.Proofs.Ytmijjaihedbjgaa.Mps
set_option linter.unusedVariables false
set_option linter.unusedSimpArgs false
open Go.RowKit Mem

/-- A step and what is wrong. -/
def StepOut (e : Int) (d : List Ch) (n : Nat) (k : Int) (W : World) (x : Ending) (W' : World) : Prop :=
  ∃ A c, x = .returned (.tuple #[.agg #[.int .i64 e, .slice A n c], .int .i64 k]) ∧ CRds W' A d ∧ Below W.heap.size W W' ∧ ∀ a, A = some a → W.heap.size ≤ a.block
def SaysS (E : Int) (S : Sp) (e0 : Int) (d0 : List Ch) (n0 : Nat) (k0 : Int) : Prop := E = k0 ∧ S = (e0, d0) ∧ d0.length = n0
theorem SaysS.bad {E : Int} {M : Sp} {e0 : Int} {l0 : List Ch} {n0 : Nat} {k0 k : Int} (h : SaysS E M e0 l0 n0 k0) (hE : E = k) (hM : M = (0, [])) : e0 = 0 ∧ l0 = [] ∧ n0 = 0 ∧ k0 = k := by
  obtain ⟨h1, h2, h3⟩ := h
  rw [hM] at h2
  injection h2 with h4 h5
  subst h4 h5
  exact ⟨rfl, rfl, h3.symm, by rw [← h1, hE]⟩
theorem CRds.off {W : World} {A : Option Addr} {es : List Ch} (h : CRds W A es) {p : Addr} (hp : ∀ a, A = some a → a.block ≠ p.block) (u : Value) : CRds (W.setCell p u) A es := fun k e hk => by
  obtain ⟨b, o, h1, h2, h3, h4, h5⟩ := h k e hk
  have hne := hp _ h1
  have key : ∀ q, (W.setCell p u).cell? ⟨b, q, none⟩ = W.cell? ⟨b, q, none⟩ := fun q => World.cell?_of_block (Below.heap_setCell W p u b hne)
  exact ⟨b, o, h1, by simpa [World.setCell] using h2, (key _).trans h3, (key _).trans h4, (key _).trans h5⟩
/-- A call's two boxes, and its result's cell. -/
def LaidD (W V : World) (a b p q : Value) : Prop :=
  V.cell? ⟨W.heap.size, 0, none⟩ = some a ∧ V.cell? ⟨W.heap.size, 1, none⟩ = some b ∧ V.cell? ⟨W.heap.size + 1, 0, none⟩ = some p ∧ V.cell? ⟨W.heap.size + 1, 1, none⟩ = some q ∧
  Known V (W.heap.size + 1 + 1) 27 #[.int .i64 0, .slice none 0 0] ∧ Below W.heap.size W V
theorem LaidD.below {W V U : World} {a b p q : Value} (h : LaidD W V a b p q) (hb : Below V.heap.size V U) : LaidD W U a b p q := by
  obtain ⟨h1, h2, h3, h4, h5, h6⟩ := h
  exact ⟨(hb.cell (World.block_lt_of_cell? _ _ h1)).trans h1, (hb.cell (World.block_lt_of_cell? _ _ h2)).trans h2, (hb.cell (World.block_lt_of_cell? _ _ h3)).trans h3, (hb.cell (World.block_lt_of_cell? _ _ h4)).trans h4, h5.later hb, h6.trans (hb.mono h6.size)⟩
theorem laidD (W : World) (a b p q : Value) : LaidD W (((W.alloc (.cells #[a, b] 24)).alloc (.cells #[p, q] 24)).alloc (.cells #[.int .i64 0, .slice none 0 0] 27)) a b p q := by
  have k1 := ((Known.made W 24 #[a, b]).alloc (.cells #[p, q] 24)).alloc (.cells #[.int .i64 0, .slice none 0 0] 27)
  have k2 := (Known.made (W.alloc (.cells #[a, b] 24)) 24 #[p, q]).alloc (.cells #[.int .i64 0, .slice none 0 0] 27)
  have k3 := Known.made ((W.alloc (.cells #[a, b] 24)).alloc (.cells #[p, q] 24)) 27 #[.int .i64 0, .slice none 0 0]
  simp only [World.size_alloc] at k2 k3
  exact ⟨k1.cell 0, k1.cell 1, k2.cell 0, k2.cell 1, k3, (((Below.refl _ _).alloc (Nat.le_refl _) _).alloc (by simp) _).alloc (by simp; omega) _⟩
theorem known_putS {V : World} {g : Nat} {a b c d : Value} (h : Known V g 27 #[c, d]) : Known ((V.setCell ⟨g, 0, none⟩ a).setCell ⟨g, 1, none⟩ b) g 27 #[a, b] := (h.put 0 a).put 1 b
theorem box_old {V : World} {p : Addr} {v : Value} (o : Obj) (h : V.cell? p = some v) : (V.alloc o).cell? p = some v :=
  (((Below.refl V.heap.size V).alloc (Nat.le_refl _) o).cell (World.block_lt_of_cell? _ _ h)).trans h
theorem df_snoc : ∀ (j : Nat) (xs bs : List Int) (a b : Int), xs.length = bs.length → df j (xs ++ [a]) (bs ++ [b]) = df j xs bs ++ (if a = b then [] else [(((j + xs.length : Nat) : Int), a, b)])
  | j, [], [], a, b, _ => by
    simp only [List.nil_append, df]
    split <;> rfl
  | _, [], _ :: _, _, _, h => by simp at h
  | _, _ :: _, [], _, _, h => by simp at h
  | j, x :: xs, y :: bs, a, b, h => by
    have ih := df_snoc (j + 1) xs bs a b (by simpa using h)
    simp only [List.cons_append, df, ih]
    rw [show j + (x :: xs).length = j + 1 + xs.length by simp; omega]
    split <;> rfl
theorem df_take {xs bs : List Int} {n k : Nat} {a b : Int} (h1 : xs.length = n) (h2 : bs.length = n) (ha : xs[k]? = some a) (hb : bs[k]? = some b) :
    (a = b → df 0 (xs.take (k + 1)) (bs.take (k + 1)) = df 0 (xs.take k) (bs.take k)) ∧ (a ≠ b → df 0 (xs.take (k + 1)) (bs.take (k + 1)) = df 0 (xs.take k) (bs.take k) ++ [((k : Int), a, b)]) := by
  have hk := (List.getElem?_eq_some_iff.1 ha).1
  have e := df_snoc 0 (xs.take k) (bs.take k) a b (by rw [List.length_take, List.length_take]; omega)
  rw [List.take_add_one, List.take_add_one, ha, hb]
  simp only [Option.toList]
  rw [e, List.length_take, show 0 + min k xs.length = k by omega]
  exact ⟨fun h => by rw [if_pos h, List.append_nil], fun h => by rw [if_neg h]⟩
theorem df_one {a b : Mp} (h : ¬ okM a ∨ ¬ okM b ∨ a.2.length ≠ b.2.length) : dfE a b = 1 := if_pos h
theorem df_two {a b : Mp} (h1 : okM a) (h2 : okM b) (h3 : a.2.length = b.2.length) (h4 : b.1 ≠ a.1 + 1) : dfE a b = 2 := by
  unfold dfE; rw [if_neg (by rintro (h | h | h) <;> contradiction), if_pos h4]
theorem df_zero {a b : Mp} (h1 : okM a) (h2 : okM b) (h3 : a.2.length = b.2.length) (h4 : b.1 = a.1 + 1) : dfE a b = 0 := by
  unfold dfE; rw [if_neg (by rintro (h | h | h) <;> contradiction), if_neg (by simpa using h4)]

set_option maxRecDepth 100000 in
set_option maxHeartbeats 8000000 in
theorem diff_c (a1 : Int) (A : Option Addr) (as_ : List Int) (n c : Nat) (b1 : Int) (B : Option Addr) (bs_ : List Int) (m cb : Nat) (W : World) (hn : as_.length = n) (hbig : n ≤ 17592186044416) (hx : Reads W A (ints as_)) (hm : bs_.length = m) (hmb : m ≤ 17592186044416) (hy : Reads W B (ints bs_))
    (e0 : Int) (d0 : List Ch) (n0 : Nat) (k0 : Int) (hs : SaysS (dfE (a1, as_) (b1, bs_)) (dfS (a1, as_) (b1, bs_)) e0 d0 n0 k0) :
    Calls Try.prog 9 #[.agg #[.int .i64 a1, .slice A n c], .agg #[.int .i64 b1, .slice B m cb]] W (StepOut e0 d0 n0 k0 W) := by
  have L := Lib.hid (laidD W (.int .i64 a1) (.slice A n c) (.int .i64 b1) (.slice B m cb))
  have HX := Lib.hid hx
  have HY := Lib.hid hy
  have HN := Lib.hid hn
  have HM := Lib.hid hm
  have HS := Lib.hid hs
  clear hn hx hm hy hs
  cases h1 : okB a1 n with
  | false =>
    have HE := Lib.hid (HS.out.bad (df_one (.inl ((okB_false (m := (a1, as_)) HN.out).1 h1))) (dfS_bad (by rw [df_one (.inl ((okB_false (m := (a1, as_)) HN.out).1 h1))]; decide)))
    have R := Lib.hid (fun V => right_c a1 A n c V false h1)
    clear h1
    obtain ⟨x0, x1, x2, x3, k3, -⟩ := L.out
    have r0 := k3.cell 0
    have r1 := k3.cell 1
    have f0 := k3.free 0
    have f1 := k3.free 1
    clear k3
    go_enter Try.func9, Try.ntmps9
    go_wp2_with fail
    refine (R.out _).mono ?_
    rintro e w1 ⟨rfl, hb⟩
    have L3 := Lib.hid (L.out.below hb)
    clear hb x0 x1 x2 x3 r0 r1 f0 f1
    obtain ⟨x0, x1, x2, x3, k3, -⟩ := L3.out
    have r0 := k3.cell 0
    have r1 := k3.cell 1
    have f0 := k3.free 0
    have f1 := k3.free 1
    clear k3
    go_wp2
    obtain ⟨rfl, rfl, rfl, rfl⟩ := HE.out
    refine bodyPost_ret (v := .tuple #[.agg #[.int .i64 0, .slice none 0 0], .int .i64 1]) ?_ rfl ⟨none, 0, rfl, CRds.nil, (L3.out.2.2.2.2.2.setCell (by show W.heap.size ≤ W.heap.size + 1 + 1; omega) _).setCell (by show W.heap.size ≤ W.heap.size + 1 + 1; omega) _, fun a h => by cases h⟩
    exact results_row2 rfl _ _ (W.heap.size + 1 + 1) 27 _ (0, 0) _ rfl (known_putS L3.out.2.2.2.2.1) fieldsStep sizeStep rfl
  | true =>
    have ha := (okB_iff (m := (a1, as_)) HN.out).1 h1
    have R := Lib.hid (fun V => right_c a1 A n c V true h1)
    clear h1
    cases h2 : okB b1 m with
    | false =>
      have HE := Lib.hid (HS.out.bad (df_one (.inr (.inl ((okB_false (m := (b1, bs_)) HM.out).1 h2)))) (dfS_bad (by rw [df_one (.inr (.inl ((okB_false (m := (b1, bs_)) HM.out).1 h2)))]; decide)))
      have R2 := Lib.hid (fun V => right_c b1 B m cb V false h2)
      clear h2 ha
      obtain ⟨x0, x1, x2, x3, k3, -⟩ := L.out
      have r0 := k3.cell 0
      have r1 := k3.cell 1
      have f0 := k3.free 0
      have f1 := k3.free 1
      clear k3
      go_enter Try.func9, Try.ntmps9
      go_wp2_with fail
      refine (R.out _).mono ?_
      rintro e w1 ⟨rfl, hb⟩
      have L2 := Lib.hid (L.out.below hb)
      clear hb x0 x1 x2 x3 r0 r1 f0 f1
      obtain ⟨x0, x1, x2, x3, k3, -⟩ := L2.out
      have r0 := k3.cell 0
      have r1 := k3.cell 1
      have f0 := k3.free 0
      have f1 := k3.free 1
      clear k3
      go_wp2_with fail
      refine (R2.out _).mono ?_
      rintro e w2 ⟨rfl, hb⟩
      have L3 := Lib.hid (L2.out.below hb)
      clear hb x0 x1 x2 x3 r0 r1 f0 f1
      obtain ⟨x0, x1, x2, x3, k3, -⟩ := L3.out
      have r0 := k3.cell 0
      have r1 := k3.cell 1
      have f0 := k3.free 0
      have f1 := k3.free 1
      clear k3
      go_wp2
      obtain ⟨rfl, rfl, rfl, rfl⟩ := HE.out
      refine bodyPost_ret (v := .tuple #[.agg #[.int .i64 0, .slice none 0 0], .int .i64 1]) ?_ rfl ⟨none, 0, rfl, CRds.nil, (L3.out.2.2.2.2.2.setCell (by show W.heap.size ≤ W.heap.size + 1 + 1; omega) _).setCell (by show W.heap.size ≤ W.heap.size + 1 + 1; omega) _, fun a h => by cases h⟩
      exact results_row2 rfl _ _ (W.heap.size + 1 + 1) 27 _ (0, 0) _ rfl (known_putS L3.out.2.2.2.2.1) fieldsStep sizeStep rfl
    | true =>
      have hb_ := (okB_iff (m := (b1, bs_)) HM.out).1 h2
      have R2 := Lib.hid (fun V => right_c b1 B m cb V true h2)
      clear h2
      by_cases h3 : n = m
      · subst h3
        have EL : as_.length = bs_.length := by rw [HN.out, HM.out]
        have q0 : ((n : Int) != (n : Int)) = false := by simp
        have wm : IntKind.i64.wrap (a1 + 1) = a1 + 1 := IntWalk.i64_in _ (by have := ha.1; have := ha.2.1; simp at *; omega)
        by_cases h4 : b1 = a1 + 1
        · have ED := df_zero ha hb_ EL h4
          have HR := Lib.hid (show e0 = a1 ∧ d0 = df 0 as_ bs_ ∧ k0 = 0 ∧ d0.length = n0 from by
            obtain ⟨g1, g2, g3⟩ := HS.out
            rw [dfS_of ED] at g2
            injection g2 with g2 g4
            exact ⟨g2.symm, g4.symm, by rw [← g1, ED], g3⟩)
          have q1 : (b1 != a1 + 1) = false := by simp [h4]
          have n400 : n ≤ 400 := by rw [← HN.out]; exact ha.2.2
          clear ha hb_ EL h4 ED
          obtain ⟨x0, x1, x2, x3, k3, -⟩ := L.out
          have r0 := k3.cell 0
          have r1 := k3.cell 1
          have f0 := k3.free 0
          have f1 := k3.free 1
          clear k3
          go_enter Try.func9, Try.ntmps9
          go_wp2_with fail
          refine (R.out _).mono ?_
          rintro e w1 ⟨rfl, hb⟩
          have L2 := Lib.hid (L.out.below hb)
          clear hb x0 x1 x2 x3 r0 r1 f0 f1
          obtain ⟨x0, x1, x2, x3, k3, -⟩ := L2.out
          have r0 := k3.cell 0
          have r1 := k3.cell 1
          have f0 := k3.free 0
          have f1 := k3.free 1
          clear k3
          go_wp2_with fail
          refine (R2.out _).mono ?_
          rintro e w2 ⟨rfl, hb⟩
          have L3 := Lib.hid (L2.out.below hb)
          clear hb x0 x1 x2 x3 r0 r1 f0 f1
          obtain ⟨x0, x1, x2, x3, k3, -⟩ := L3.out
          have r0 := k3.cell 0
          have r1 := k3.cell 1
          have f0 := k3.free 0
          have f1 := k3.free 1
          clear k3
          have K6 := Lib.hid (Known.made w2 27 #[.int .i64 a1, .slice none 0 0])
          have z1 := box_old (.cells #[.int .i64 a1, .slice none 0 0] 27) x1
          have GX := Lib.hid (show W.heap.size + 1 + 1 < w2.heap.size from L3.out.2.2.2.2.1.lt)
          have X3 := Lib.hid (HX.out.below L3.out.2.2.2.2.2)
          have Y3 := Lib.hid (HY.out.below L3.out.2.2.2.2.2)
          go_wp2
          go_loopw [41] (fun i wr => ∃ (k q : Nat) (D : Option Addr) (dc : Nat), k ≤ n ∧ q ≤ k ∧ i = .int .i64 k ∧ (df 0 (as_.take k) (bs_.take k)).length = q ∧ CTab wr (w2.heap.size + 1) (.slice D q dc) (df 0 (as_.take k) (bs_.take k)) ∧ Known wr w2.heap.size 27 #[.int .i64 a1, .slice D q dc] ∧ Below w2.heap.size w2 wr) (fun i _ => n - (intOf i).toNat)
          case atStart => exact ⟨0, 0, none, 0, by omega, by omega, rfl, rfl, CTab.nil _ _, K6.out, (Below.refl _ _).alloc (Nat.le_refl _) _⟩
          case round =>
            obtain ⟨k, q, D, dc, hk, hqk, rfl, hdl, hT, hK, hB⟩ := hrel
            clear x0 x1 x2 x3 r0 r1 f0 f1 z1
            have L4 := Lib.hid (L3.out.below hB)
            obtain ⟨x0, x1, x2, x3, k3, -⟩ := L4.out
            have r0 := k3.cell 0
            have r1 := k3.cell 1
            have f0 := k3.free 0
            have f1 := k3.free 1
            clear k3
            have g0 := hK.cell 0
            have g1 := hK.cell 1
            have g2 := hK.free 0
            have g3 := hK.free 1
            have HK := Lib.hid hK
            have HT := Lib.hid hT
            have HB := Lib.hid hB
            by_cases hlt : k < n
            · have ka : k < as_.length := by rw [HN.out]; exact hlt
              have kb : k < bs_.length := by rw [HM.out]; exact hlt
              have ea : as_[k]? = some as_[k] := List.getElem?_eq_getElem ka
              have eb : bs_[k]? = some bs_[k] := List.getElem?_eq_getElem kb
              obtain ⟨x, hu⟩ : ∃ x, x = as_[k] := ⟨_, rfl⟩
              obtain ⟨y, hv⟩ : ∃ y, y = bs_[k] := ⟨_, rfl⟩
              rw [← hu] at ea
              rw [← hv] at eb
              obtain ⟨ba, oa, rfl, _, xa⟩ := (X3.out.below hB) k (.int .i64 x) (by rw [List.getElem?_map, ea]; rfl)
              obtain ⟨bb, ob, rfl, _, xb⟩ := (Y3.out.below hB) k (.int .i64 y) (by rw [List.getElem?_map, eb]; rfl)
              obtain ⟨t1, t2⟩ := df_take HN.out HM.out ea eb
              have i1 : (k : Int) < (n : Int) := by omega
              have DL := Lib.hid hdl
              clear hu hv ka kb ea eb hT hK hB hdl
              by_cases hxy : x = y
              · have q5 : (x != y) = false := by simp [hxy]
                have EQ := Lib.hid (t1 hxy)
                clear t1 t2 hxy
                go_wp2
                go_roundw
                case rel => exact ⟨k + 1, q, D, dc, by omega, by omega, by go_num, by rw [EQ.out]; exact DL.out, by rw [EQ.out]; exact HT.out, HK.out, HB.out⟩
                case measure => simp [intOf]; omega
              · have q5 : (x != y) = true := by simpa using hxy
                have EQ := Lib.hid (t2 hxy)
                clear t1 t2 hxy
                go_wp2_with (refine wpList_append_ch rfl _ _ (by rfl) (e1 := k) (e2 := x) (e3 := y) (v := .slice D q dc) (n := q) (es := df 0 (as_.take k) (bs_.take k)) rfl rfl HT.out DL.out (by omega) (Nat.succ_le_of_lt HK.out.lt) (Below.refl (w2.heap.size + 1) wr) (Nat.le_refl _) ?_; intro D3 c3 w3 T3 B3; have K7 := Lib.hid (HK.out.below B3.out (Nat.lt_succ_self _)); have B7 := Lib.hid (HB.out.trans (B3.out.mono (Nat.le_succ _))); clear g0 g1 g2 g3; have g0 := K7.out.cell 0; have g1 := K7.out.cell 1; have g2 := K7.out.free 0; have g3 := K7.out.free 1)
                have P8 := Lib.hid (show Known (w3.setCell ⟨w2.heap.size, 1, none⟩ (.slice D3 (q + 1) c3)) w2.heap.size 27 #[.int .i64 a1, .slice D3 (q + 1) c3] from K7.out.put 1 _)
                go_roundw
                case rel => exact ⟨k + 1, q + 1, D3, c3, by omega, by omega, by go_num, by rw [EQ.out, List.length_append, DL.out]; rfl, by rw [EQ.out]; exact T3.out.off (p := ⟨w2.heap.size, 1, none⟩) (fun g hg => by have := (T3.out.lt g hg).1; show g ≠ w2.heap.size; omega) _, P8.out, B7.out.setCell (Nat.le_refl _) _⟩
                case measure => simp [intOf]; omega
            · obtain rfl : k = n := by omega
              have ET : df 0 (as_.take k) (bs_.take k) = df 0 as_ bs_ := by rw [List.take_of_length_le (by rw [HN.out]; omega), List.take_of_length_le (by rw [HM.out]; omega)]
              rw [ET] at HT
              rw [ET] at hdl
              have DL := Lib.hid hdl
              clear hT hK hB hdl ET
              go_wp2
              obtain ⟨rfl, rfl, rfl, hn0⟩ := HR.out
              obtain rfl : q = n0 := by rw [← hn0, DL.out]
              refine bodyPost_ret (v := .tuple #[.agg #[.int .i64 e0, .slice D q dc], .int .i64 0]) ?_ rfl ⟨D, dc, rfl, ?_, ((L4.out.2.2.2.2.2).setCell (by show W.heap.size ≤ W.heap.size + 1 + 1; omega) _).setCell (by show W.heap.size ≤ W.heap.size + 1 + 1; omega) _, fun a h => ?_⟩
              · exact results_row2 rfl _ _ (W.heap.size + 1 + 1) 27 _ (0, 0) _ rfl (known_putS L4.out.2.2.2.2.1) fieldsStep sizeStep rfl
              · have far : ∀ a, D = some a → a.block ≠ W.heap.size + 1 + 1 := fun a h => by have := (HT.out.lt a.block (by rw [h]; rfl)).1; have := GX.out; omega
                exact (HT.out.rds.off (p := ⟨W.heap.size + 1 + 1, 0, none⟩) far _).off (p := ⟨W.heap.size + 1 + 1, 1, none⟩) far _
              · have := (HT.out.lt a.block (by rw [h]; rfl)).1
                have := GX.out
                omega
        · have HE := Lib.hid (HS.out.bad (df_two ha hb_ EL h4) (dfS_bad (by rw [df_two ha hb_ EL h4]; decide)))
          have q1 : (b1 != a1 + 1) = true := by simpa using h4
          clear ha hb_ EL h4
          obtain ⟨x0, x1, x2, x3, k3, -⟩ := L.out
          have r0 := k3.cell 0
          have r1 := k3.cell 1
          have f0 := k3.free 0
          have f1 := k3.free 1
          clear k3
          go_enter Try.func9, Try.ntmps9
          go_wp2_with fail
          refine (R.out _).mono ?_
          rintro e w1 ⟨rfl, hb⟩
          have L2 := Lib.hid (L.out.below hb)
          clear hb x0 x1 x2 x3 r0 r1 f0 f1
          obtain ⟨x0, x1, x2, x3, k3, -⟩ := L2.out
          have r0 := k3.cell 0
          have r1 := k3.cell 1
          have f0 := k3.free 0
          have f1 := k3.free 1
          clear k3
          go_wp2_with fail
          refine (R2.out _).mono ?_
          rintro e w2 ⟨rfl, hb⟩
          have L3 := Lib.hid (L2.out.below hb)
          clear hb x0 x1 x2 x3 r0 r1 f0 f1
          obtain ⟨x0, x1, x2, x3, k3, -⟩ := L3.out
          have r0 := k3.cell 0
          have r1 := k3.cell 1
          have f0 := k3.free 0
          have f1 := k3.free 1
          clear k3
          go_wp2
          obtain ⟨rfl, rfl, rfl, rfl⟩ := HE.out
          refine bodyPost_ret (v := .tuple #[.agg #[.int .i64 0, .slice none 0 0], .int .i64 2]) ?_ rfl ⟨none, 0, rfl, CRds.nil, (L3.out.2.2.2.2.2.setCell (by show W.heap.size ≤ W.heap.size + 1 + 1; omega) _).setCell (by show W.heap.size ≤ W.heap.size + 1 + 1; omega) _, fun a h => by cases h⟩
          exact results_row2 rfl _ _ (W.heap.size + 1 + 1) 27 _ (0, 0) _ rfl (known_putS L3.out.2.2.2.2.1) fieldsStep sizeStep rfl
      · have HE := Lib.hid (HS.out.bad (df_one (.inr (.inr (show as_.length ≠ bs_.length by rw [HN.out, HM.out]; exact h3)))) (dfS_bad (by rw [df_one (.inr (.inr (show as_.length ≠ bs_.length by rw [HN.out, HM.out]; exact h3)))]; decide)))
        have q0 : ((n : Int) != (m : Int)) = true := by simp; omega
        have q0n : (n != m) = true := by simpa using h3
        clear ha hb_ h3
        obtain ⟨x0, x1, x2, x3, k3, -⟩ := L.out
        have r0 := k3.cell 0
        have r1 := k3.cell 1
        have f0 := k3.free 0
        have f1 := k3.free 1
        clear k3
        go_enter Try.func9, Try.ntmps9
        go_wp2_with fail
        refine (R.out _).mono ?_
        rintro e w1 ⟨rfl, hb⟩
        have L2 := Lib.hid (L.out.below hb)
        clear hb x0 x1 x2 x3 r0 r1 f0 f1
        obtain ⟨x0, x1, x2, x3, k3, -⟩ := L2.out
        have r0 := k3.cell 0
        have r1 := k3.cell 1
        have f0 := k3.free 0
        have f1 := k3.free 1
        clear k3
        go_wp2_with fail
        refine (R2.out _).mono ?_
        rintro e w2 ⟨rfl, hb⟩
        have L3 := Lib.hid (L2.out.below hb)
        clear hb x0 x1 x2 x3 r0 r1 f0 f1
        obtain ⟨x0, x1, x2, x3, k3, -⟩ := L3.out
        have r0 := k3.cell 0
        have r1 := k3.cell 1
        have f0 := k3.free 0
        have f1 := k3.free 1
        clear k3
        go_wp2
        obtain ⟨rfl, rfl, rfl, rfl⟩ := HE.out
        refine bodyPost_ret (v := .tuple #[.agg #[.int .i64 0, .slice none 0 0], .int .i64 1]) ?_ rfl ⟨none, 0, rfl, CRds.nil, (L3.out.2.2.2.2.2.setCell (by show W.heap.size ≤ W.heap.size + 1 + 1; omega) _).setCell (by show W.heap.size ≤ W.heap.size + 1 + 1; omega) _, fun a h => by cases h⟩
        exact results_row2 rfl _ _ (W.heap.size + 1 + 1) 27 _ (0, 0) _ rfl (known_putS L3.out.2.2.2.2.1) fieldsStep sizeStep rfl
end Go.Proofs.Ytmijjaihedbjgaa.Mps
