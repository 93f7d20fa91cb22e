/-
  Package orset, the program: find, wasDropped, the closures of Join.
-/
import Derived.Test.YthebilmeehnkpaaOrPF
namespace Go.Proofs.Ythebilmeehnkpaa.Ors
set_option linter.unusedVariables false
set_option linter.unusedSimpArgs false
open Go.RowKit Mem Gt
open Jump (Gave equalZ_c)
open Go.Sort (grow alloc_eq_grow grow_grow)

/-! ### find -/
def FindOut (b : Bg) (t : Tg) (W : World) (e : Ending) (W' : World) : Prop := ∃ u : Tg, (hasKey b t = true → u ∈ b.1 ∧ sameKey t u = true) ∧ e = .returned (.tuple #[.agg #[.int .i64 u.1, .int .i64 u.2.1, .int .i64 u.2.2], .bool (hasKey b t)]) ∧ Below W.heap.size W W'
set_option maxRecDepth 100000 in
set_option maxHeartbeats 8000000 in
theorem findP_c (H S : Option Addr) (nh ch ns cs : Nat) (b : Bg) (t : Tg) (V : World) (h : HB V H S nh ch ns cs b) (ok : OkB b) :
    Calls Try.prog 43 #[.agg #[.slice H nh ch, .slice S ns cs], .agg #[.int .i64 t.1, .int .i64 t.2.1, .int .i64 t.2.2]] V (FindOut b t V) := by
  obtain ⟨t0, t1, t2⟩ := t
  simp only
  have g1 := HG.new h rfl
  have b1 := low_lit V (bagO H S nh ch ns cs)
  obtain ⟨w1, hw1⟩ : ∃ w1, V.alloc (.cells #[.slice H nh ch, .slice S ns cs] 25) = w1 := ⟨_, rfl⟩
  rw [hw1] at g1 b1
  have g2 := g1.alloc (.cells #[.int .i64 t0, .int .i64 t1, .int .i64 t2] tT)
  have k2 := Known.made w1 tT #[.int .i64 t0, .int .i64 t1, .int .i64 t2]
  have b2 := b1.trans ((low_lit w1 (.cells #[.int .i64 t0, .int .i64 t1, .int .i64 t2] tT)).mono b1.size)
  obtain ⟨w2, hw2⟩ : ∃ w2, w1.alloc (.cells #[.int .i64 t0, .int .i64 t1, .int .i64 t2] 37) = w2 := ⟨_, rfl⟩
  rw [hw2] at g2 b2 k2
  have g3 := g2.alloc (.cells #[.int .i64 0, .int .i64 0, .int .i64 0] tT)
  have k3 := k2.later (low_lit w2 (.cells #[.int .i64 0, .int .i64 0, .int .i64 0] tT))
  have b3 := b2.trans ((low_lit w2 (.cells #[.int .i64 0, .int .i64 0, .int .i64 0] tT)).mono b2.size)
  have kr := Known.made w2 tT #[.int .i64 0, .int .i64 0, .int .i64 0]
  have SW : V.heap.size ≤ w2.heap.size := b2.size
  obtain ⟨w3, hw3⟩ : ∃ w3, w2.alloc (.cells #[.int .i64 0, .int .i64 0, .int .i64 0] 37) = w3 := ⟨_, rfl⟩
  rw [hw3] at g3 b3 k3 kr
  have G3 := Lib.hid g3
  have B3 := Lib.hid b3
  have KR := Lib.hid kr
  have LH := Lib.hid h.lenH
  have hmany : nh ≤ 400 := by have := ok.many; have := h.lenH; omega
  have RI := Lib.hid ok.rise
  have BS := Lib.hid (bsearch_c H b.1 nh ch (t0, t1, t2) w3 LH.out (by omega) g3.2.2.has ok.rise)
  obtain ⟨z0, z1, -⟩ := g3
  have d0 := k3.cell 0
  have d1 := k3.cell 1
  have d2 := k3.cell 2
  simp at d0 d1 d2
  obtain ⟨r, hr⟩ : ∃ r, hasKey b (t0, t1, t2) = r := ⟨_, rfl⟩
  have HR := Lib.hid hr
  clear h g1 g2 b1 b2 b3 k2 k3 kr ok hr
  go_enter Try.func43, Try.ntmps43
  go_wp2_with fail
  refine BS.out.mono ?_
  rintro x w4 ⟨p, hsp, rfl, hb⟩
  rw [show b.1.any (sameKey (t0, t1, t2)) = r from HR.out]
  have SP := Lib.hid hsp
  have B4 := Lib.hid hb
  have G4 := Lib.hid (G3.out.below hb)
  have K4 := Lib.hid (KR.out.later hb)
  have c0 := K4.out.cell 0
  have c1 := K4.out.cell 1
  have c2 := K4.out.cell 2
  have f0 := K4.out.free 0
  have f1 := K4.out.free 1
  have f2 := K4.out.free 2
  simp at c0 c1 c2
  clear hw1 hw2 hw3 z0 z1 d0 d1 d2 hb hsp
  cases r with
  | false =>
    have KK := Lib.hid (((K4.out.put 0 (.int .i64 0)).put 1 (.int .i64 0)).put 2 (.int .i64 0))
    go_wp2_with fail
    refine bodyPost_ret (v := .tuple #[.agg #[.int .i64 0, .int .i64 0, .int .i64 0], .bool false]) ?_ rfl ⟨(0, 0, 0), fun hk => (by rw [HR.out] at hk; cases hk), by rw [HR.out], (((B3.out.trans (B4.out.mono B3.out.size)).setCell (p := ⟨w2.heap.size, 0, none⟩) SW _).setCell (p := ⟨w2.heap.size, 1, none⟩) SW _).setCell (p := ⟨w2.heap.size, 2, none⟩) SW _⟩
    exact results_row2 rfl _ _ w2.heap.size tT _ (0, 0) _ rfl KK.out fieldsTag sizeTag rfl
  | true =>
    have hp : p < nh := by
      rcases Nat.lt_or_ge p nh with h | h
      · exact h
      · have h1 := SP.out.1
        have h2 := LH.out
        have h3 := (any_key RI.out SP.out).2 (by omega)
        have h4 : b.1.any (sameKey (t0, t1, t2)) = true := HR.out
        rw [h4] at h3; cases h3
    obtain ⟨⟨x0, x1, x2⟩, hx⟩ : ∃ x, b.1[p]? = some x := ⟨_, List.getElem?_eq_getElem (by rw [LH.out]; exact hp)⟩
    have SKX := Lib.hid (show sameKey (t0, t1, t2) (x0, x1, x2) = true from ((any_key RI.out SP.out).1 _ hx).symm.trans HR.out)
    have MX := Lib.hid (List.mem_of_getElem? hx)
    obtain ⟨bb, o, rfl, _, y0, y1, y2⟩ := tg_at G4.out.2.2.has hx
    simp only at y0 y1 y2
    obtain ⟨z0, z1, -⟩ := G4.out
    have KK := Lib.hid (((K4.out.put 0 (.int .i64 x0)).put 1 (.int .i64 x1)).put 2 (.int .i64 x2))
    have j1 : (p : Int) < (nh : Int) := by omega
    clear hx
    go_wp2_with fail
    refine bodyPost_ret (v := .tuple #[.agg #[.int .i64 x0, .int .i64 x1, .int .i64 x2], .bool true]) ?_ rfl ⟨(x0, x1, x2), fun _ => ⟨MX.out, SKX.out⟩, by rw [HR.out], (((B3.out.trans (B4.out.mono B3.out.size)).setCell (p := ⟨w2.heap.size, 0, none⟩) SW _).setCell (p := ⟨w2.heap.size, 1, none⟩) SW _).setCell (p := ⟨w2.heap.size, 2, none⟩) SW _⟩
    exact results_row2 rfl _ _ w2.heap.size tT _ (0, 0) _ rfl KK.out fieldsTag sizeTag rfl

/-! ### wasDropped -/
set_option maxRecDepth 100000 in
set_option maxHeartbeats 8000000 in
theorem wasDropped_c (H S : Option Addr) (nh ch ns cs : Nat) (b : Bg) (t : Tg) (V : World) (r : Bool) (h : HB V H S nh ch ns cs b) (ok : OkB b) (h0 : 0 ≤ t.1) (h1 : t.1 < (ns : Int)) (hr : goneIn b t = r) :
    Calls Try.prog 46 #[.agg #[.slice H nh ch, .slice S ns cs], .agg #[.int .i64 t.1, .int .i64 t.2.1, .int .i64 t.2.2]] V (Gave (.bool r) V) := by
  obtain ⟨t0, t1, t2⟩ := t
  simp only at h0 h1 ⊢
  have g1 := HG.new h rfl
  have b1 := low_lit V (bagO H S nh ch ns cs)
  obtain ⟨w1, hw1⟩ : ∃ w1, V.alloc (.cells #[.slice H nh ch, .slice S ns cs] 25) = w1 := ⟨_, rfl⟩
  rw [hw1] at g1 b1
  have g2 := g1.alloc (.cells #[.int .i64 t0, .int .i64 t1, .int .i64 t2] tT)
  have k2 := Known.made w1 tT #[.int .i64 t0, .int .i64 t1, .int .i64 t2]
  have b2 := b1.trans ((low_lit w1 (.cells #[.int .i64 t0, .int .i64 t1, .int .i64 t2] tT)).mono b1.size)
  obtain ⟨w2, hw2⟩ : ∃ w2, w1.alloc (.cells #[.int .i64 t0, .int .i64 t1, .int .i64 t2] 37) = w2 := ⟨_, rfl⟩
  rw [hw2] at g2 b2 k2
  have G2 := Lib.hid g2
  have B2 := Lib.hid b2
  have K2 := Lib.hid k2
  have FC := Lib.hid (findP_c H S nh ch ns cs b (t0, t1, t2) w2 g2.2.2 ok)
  have LS := Lib.hid h.lenS
  have bs := h.bs
  obtain ⟨z0, z1, -⟩ := g2
  have d0 := k2.cell 0
  have d1 := k2.cell 1
  have d2 := k2.cell 2
  simp at d0 d1 d2
  obtain ⟨f, hf⟩ : ∃ f, hasKey b (t0, t1, t2) = f := ⟨_, rfl⟩
  obtain ⟨q, hq⟩ : ∃ q, decide (t1 ≤ sawAt b.2 t0) = q := ⟨_, rfl⟩
  have HF := Lib.hid hf
  have E := Lib.hid (show r = (!f && q) by rw [← hr]; unfold goneIn; rw [hf, hq])
  have IK := Lib.hid (fun (w : World) (hb : Below w2.heap.size w2 w) => isKnown_c H S nh ch ns cs b.2 (t0, t1, t2) w LS.out bs ((G2.out.below hb).2.2.saw) h0 h1 q hq)
  clear h g1 b1 b2 k2 ok hr hf hq h0 h1
  go_enter Try.func46, Try.ntmps46
  go_wp2_with fail
  refine FC.out.mono ?_
  rintro x w4 ⟨⟨u0, u1, u2⟩, -, rfl, hb⟩
  rw [HF.out]
  have B4 := Lib.hid hb
  clear hw1 hw2 z0 z1 d0 d1 d2 hb
  have B5 := Lib.hid (B4.out.trans ((low_lit w4 (.cells #[.int .i64 u0, .int .i64 u1, .int .i64 u2] 37)).mono B4.out.size))
  obtain ⟨w5, hw5⟩ : ∃ w5, w4.alloc (.cells #[.int .i64 u0, .int .i64 u1, .int .i64 u2] 37) = w5 := ⟨_, rfl⟩
  rw [hw5] at B5
  obtain ⟨z0, z1, -⟩ := G2.out.below B5.out
  have K5 := K2.out.later B5.out
  have d0 := K5.cell 0
  have d1 := K5.cell 1
  have d2 := K5.cell 2
  simp at d0 d1 d2
  clear K5
  cases f with
  | true =>
    go_wp2_with fail
    rw [E.out]
    go_ret
    exact ⟨rfl, B2.out.trans (B5.out.mono B2.out.size)⟩
  | false =>
    go_wp2_with fail
    refine (IK.out _ B5.out).mono ?_
    rintro x w6 ⟨rfl, hb6⟩
    have B6 := Lib.hid (B5.out.trans (hb6.mono B5.out.size))
    clear hb6
    go_wp2_with fail
    rw [E.out]
    go_ret
    exact ⟨rfl, B2.out.trans (B6.out.mono B2.out.size)⟩

/-! ### The closures of Join -/
theorem other_no {b : Bg} {t : Tg} (h : hasKey b t = false) : other b t = false := by
  unfold other
  unfold hasKey at h
  rw [List.any_eq_false] at h ⊢
  intro u hu
  have := h u hu
  rw [Bool.not_eq_true] at this
  rw [this]; simp
theorem other_yes {b : Bg} (ok : OkB b) {t u : Tg} (hu : u ∈ b.1) (hk : sameKey t u = true) : other b t = !decide (u.2.2 = t.2.2) := by
  unfold other
  have key : ∀ v ∈ b.1, sameKey t v = true → v = u := fun v hv hvk => by
    unfold sameKey at hk hvk
    rw [Bool.and_eq_true, decide_eq_true_eq, decide_eq_true_eq] at hk hvk
    exact rise_key ok.rise hv hu (hvk.1.trans hk.1.symm) (hvk.2.trans hk.2.symm)
  cases e : !decide (u.2.2 = t.2.2) with
  | true => exact List.any_eq_true.2 ⟨u, hu, by rw [hk, e]; rfl⟩
  | false =>
    rw [List.any_eq_false]
    intro v hv
    cases hvk : sameKey t v with
    | false => simp
    | true =>
      have := key v hv hvk
      subst this
      rw [e]; simp
set_option maxRecDepth 100000 in
set_option maxHeartbeats 8000000 in
theorem join1_c (g : Nat) (H S : Option Addr) (nh ch ns cs : Nat) (b : Bg) (t : Tg) (V : World) (h : HG V g H S nh ch ns cs b) (ok : OkB b) :
    Calls Try.prog 42 #[.agg #[.int .i64 t.1, .int .i64 t.2.1, .int .i64 t.2.2], .pointer (some ⟨g, 0, none⟩)] V (Gave (.bool (other b t)) V) := by
  obtain ⟨t0, t1, t2⟩ := t
  simp only
  have b1 := low_lit V (.cells #[.int .i64 t0, .int .i64 t1, .int .i64 t2] tT)
  have k1 := Known.made V tT #[.int .i64 t0, .int .i64 t1, .int .i64 t2]
  have g1 := h.alloc (.cells #[.int .i64 t0, .int .i64 t1, .int .i64 t2] tT)
  obtain ⟨w1, hw1⟩ : ∃ w1, V.alloc (.cells #[.int .i64 t0, .int .i64 t1, .int .i64 t2] 37) = w1 := ⟨_, rfl⟩
  rw [hw1] at b1 k1 g1
  have G1 := Lib.hid g1
  have B1 := Lib.hid b1
  have K1 := Lib.hid k1
  have FC := Lib.hid (findP_c H S nh ch ns cs b (t0, t1, t2) w1 g1.2.2 ok)
  have OK := Lib.hid ok
  obtain ⟨z0, z1, -⟩ := g1
  have d0 := k1.cell 0
  have d1 := k1.cell 1
  have d2 := k1.cell 2
  simp at d0 d1 d2
  obtain ⟨f, hf⟩ : ∃ f, hasKey b (t0, t1, t2) = f := ⟨_, rfl⟩
  have HF := Lib.hid hf
  clear h b1 k1 ok hf
  go_enter Try.func42, Try.ntmps42
  go_wp2_with fail
  refine FC.out.mono ?_
  rintro x w4 ⟨⟨u0, u1, u2⟩, hu, rfl, hb⟩
  rw [HF.out] at hu ⊢
  have HU := Lib.hid hu
  have B4 := Lib.hid hb
  clear hw1 z0 z1 d0 d1 d2 hb hu
  have B5 := Lib.hid (B4.out.trans ((low_lit w4 (.cells #[.int .i64 u0, .int .i64 u1, .int .i64 u2] 37)).mono B4.out.size))
  have k5 := Known.made w4 tT #[.int .i64 u0, .int .i64 u1, .int .i64 u2]
  obtain ⟨w5, hw5⟩ : ∃ w5, w4.alloc (.cells #[.int .i64 u0, .int .i64 u1, .int .i64 u2] 37) = w5 := ⟨_, rfl⟩
  rw [hw5] at B5 k5
  have K5 := K1.out.later B5.out
  have d2 := K5.cell 2
  have e2 := k5.cell 2
  simp at d2 e2
  clear K5 k5
  cases f with
  | false =>
    have E := Lib.hid (other_no HF.out)
    go_wp2_with fail
    rw [E.out]
    go_ret
    exact ⟨rfl, B1.out.trans (B5.out.mono B1.out.size)⟩
  | true =>
    obtain ⟨q, hq⟩ : ∃ q, (u2 != t2) = q := ⟨_, rfl⟩
    have E := Lib.hid (show other b (t0, t1, t2) = q by
      obtain ⟨h1, h2⟩ := HU.out rfl
      rw [other_yes OK.out h1 h2, ← hq]
      by_cases e : u2 = t2 <;> simp [e])
    go_wp2_with fail
    rw [E.out]
    go_ret
    exact ⟨rfl, B1.out.trans (B5.out.mono B1.out.size)⟩
set_option maxRecDepth 100000 in
set_option maxHeartbeats 8000000 in
theorem join2_c (g g' : Nat) (H S H2 S2 : Option Addr) (nh ch ns cs nh2 ch2 ns2 cs2 : Nat) (a b : Bg) (t : Tg) (V : World) (ha : HG V g H S nh ch ns cs a) (hb : HG V g' H2 S2 nh2 ch2 ns2 cs2 b) (oa : OkB a) (ob : OkB b) (h0 : 0 ≤ t.1) (h1 : t.1 < (ns : Int)) (h2 : t.1 < (ns2 : Int)) :
    Calls Try.prog 45 #[.agg #[.int .i64 t.1, .int .i64 t.2.1, .int .i64 t.2.2], .pointer (some ⟨g, 0, none⟩), .pointer (some ⟨g', 0, none⟩)] V (Gave (.bool (goneL a b t)) V) := by
  obtain ⟨t0, t1, t2⟩ := t
  simp only at h0 h1 h2 ⊢
  have b1 := low_lit V (.cells #[.int .i64 t0, .int .i64 t1, .int .i64 t2] tT)
  have k1 := Known.made V tT #[.int .i64 t0, .int .i64 t1, .int .i64 t2]
  have g1 := ha.alloc (.cells #[.int .i64 t0, .int .i64 t1, .int .i64 t2] tT)
  have q1 := hb.alloc (.cells #[.int .i64 t0, .int .i64 t1, .int .i64 t2] tT)
  obtain ⟨w1, hw1⟩ : ∃ w1, V.alloc (.cells #[.int .i64 t0, .int .i64 t1, .int .i64 t2] 37) = w1 := ⟨_, rfl⟩
  rw [hw1] at b1 k1 g1 q1
  have Q1 := Lib.hid q1
  have B1 := Lib.hid b1
  have K1 := Lib.hid k1
  obtain ⟨r1, hr1⟩ : ∃ r, goneIn a (t0, t1, t2) = r := ⟨_, rfl⟩
  obtain ⟨r2, hr2⟩ : ∃ r, goneIn b (t0, t1, t2) = r := ⟨_, rfl⟩
  have E := Lib.hid (show goneL a b (t0, t1, t2) = (r1 || r2) by unfold goneL; rw [hr1, hr2])
  have D1 := Lib.hid (wasDropped_c H S nh ch ns cs a (t0, t1, t2) w1 r1 g1.2.2 oa h0 h1 hr1)
  have D2 := Lib.hid (fun (w : World) (hb : Below w1.heap.size w1 w) => wasDropped_c H2 S2 nh2 ch2 ns2 cs2 b (t0, t1, t2) w r2 (Q1.out.below hb).2.2 ob h0 h2 hr2)
  obtain ⟨z0, z1, -⟩ := g1
  have d0 := k1.cell 0
  have d1 := k1.cell 1
  have d2 := k1.cell 2
  simp at d0 d1 d2
  clear ha hb oa ob h0 h1 h2 b1 k1 q1 hr1 hr2
  go_enter Try.func45, Try.ntmps45
  go_wp2_with fail
  refine D1.out.mono ?_
  rintro x w4 ⟨rfl, hb⟩
  have B4 := Lib.hid hb
  clear hw1 z0 z1 d0 d1 d2
  have K4 := K1.out.later hb
  have d0 := K4.cell 0
  have d1 := K4.cell 1
  have d2 := K4.cell 2
  simp at d0 d1 d2
  obtain ⟨z0, z1, -⟩ := Q1.out.below hb
  clear hb K4
  cases r1 with
  | true =>
    go_wp2_with fail
    rw [E.out]
    go_ret
    exact ⟨rfl, B1.out.trans (B4.out.mono B1.out.size)⟩
  | false =>
    go_wp2_with fail
    refine (D2.out _ B4.out).mono ?_
    rintro x w5 ⟨rfl, hb⟩
    have B5 := Lib.hid (B4.out.trans (hb.mono B4.out.size))
    clear hb
    go_wp2_with fail
    rw [E.out]
    go_ret
    exact ⟨rfl, B1.out.trans (B5.out.mono B1.out.size)⟩
end Go.Proofs.Ythebilmeehnkpaa.Ors
