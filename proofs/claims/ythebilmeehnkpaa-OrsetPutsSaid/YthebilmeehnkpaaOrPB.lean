/-
  Package orset, the program: Right.
-/
import Derived.Test.YthebilmeehnkpaaOrPA
import Derived.Test.YthebilmeehnkpaaOrRef
import Derived.Test.YthebilmeehnkpaaOrVec
namespace Go.Proofs.Ythebilmeehnkpaa.Ors
set_option linter.unusedVariables false
set_option linter.unusedSimpArgs false
open Go.RowKit Mem Gt
open Jump (Gave equalZ_c)
open Go.Sort (grow alloc_eq_grow grow_grow)

theorem ok_take {s : List Int} {l : List Tg} (k : Nat) (h : okFrom s (-1, 0, 0) l = true) : okFrom s (-1, 0, 0) (l.take k) = true := by
  rw [okFrom_iff] at *
  exact ⟨fun t ht => h.1 t (List.mem_of_mem_take ht), h.2.sublist (List.take_sublist k l)⟩
theorem ok_false {s : List Int} {l : List Tg} {k : Nat} (h : okFrom s (-1, 0, 0) (l.take k) = false) : okFrom s (-1, 0, 0) l = false := by
  cases e : okFrom s (-1, 0, 0) l with
  | false => rfl
  | true => rw [ok_take k e] at h; cases h
theorem wrongU {s : List Int} : Ve.wrongE [s] = 0 ↔ s.length ≤ 16 ∧ s.all okX = true := by
  rw [Ve.wrongE_zero, List.all_eq_true]
  constructor
  · rintro ⟨q, h⟩
    obtain ⟨h1, h2, h3⟩ := h s (by simp)
    exact ⟨by omega, fun x hx => by unfold okX; rw [Bool.and_eq_true, decide_eq_true_eq, decide_eq_true_eq]; exact h3 x hx⟩
  · rintro ⟨h1, h2⟩
    refine ⟨s.length, fun v hv => ?_⟩
    rw [List.mem_singleton] at hv
    subst hv
    exact ⟨rfl, h1, fun x hx => by have := h2 x hx; unfold okX at this; rw [Bool.and_eq_true, decide_eq_true_eq, decide_eq_true_eq] at this; exact this⟩
theorem right_no1 {b : Bg} (h : Ve.wrongE [b.2] ≠ 0) : okB b = false := by
  cases e : okB b with
  | false => rfl
  | true =>
    unfold okB at e
    simp only [Bool.and_eq_true, decide_eq_true_eq] at e
    exact absurd (wrongU.2 ⟨e.1.1.1, e.1.2⟩) h
theorem right_no2 {b : Bg} (h : 400 < b.1.length) : okB b = false := by
  unfold okB
  rw [decide_eq_false (show ¬ b.1.length ≤ 400 by omega)]
  simp
theorem right_go {b : Bg} (h : Ve.wrongE [b.2] = 0) (h2 : b.1.length ≤ 400) : okB b = okFrom b.2 (-1, 0, 0) b.1 := by
  obtain ⟨h3, h4⟩ := wrongU.1 h
  unfold okB
  rw [decide_eq_true h3, decide_eq_true h2, h4]
  simp
theorem last_take {l : List Tg} {k : Nat} {y : Tg} (h : l[k]? = some y) : lastT (l.take (k + 1)) = y := by
  unfold lastT; rw [take_last h]; rfl
theorem klt_first {s : List Int} {x : Tg} (h : okTag s x = true) : klt (-1, 0, 0) x = true := by
  rw [okTag_iff] at h
  rw [klt_iff]
  have := h.1
  exact .inl (show (-1 : Int) < x.1 by omega)
def RightAt (W : World) (s : List Int) (has : List Tg) (k : Nat) (wr : World) : Prop := okFrom s (-1, 0, 0) (has.take k) = true ∧ Below W.heap.size W wr
set_option maxRecDepth 100000 in
set_option maxHeartbeats 16000000 in
theorem rightSpec : RightSpec := fun H S nh ch ns cs b V r h hr => by
  obtain ⟨u, hu⟩ : ∃ u, Ve.wrongE [b.2] = u := ⟨_, rfl⟩
  have g0 := HG.new h rfl
  obtain ⟨w1, hw1⟩ : ∃ w1, V.alloc (.cells #[.slice H nh ch, .slice S ns cs] 25) = w1 := ⟨_, rfl⟩
  have b1 := low_lit V (.cells #[.slice H nh ch, .slice S ns cs] 25)
  rw [hw1] at g0 b1
  have P := Lib.hid (Ve.wrong_c (some ⟨w1.heap.size, 0, none⟩) [b.2] 1 1 (w1.alloc (.cells #[.slice S ns cs] 23)) u rfl (by omega) (Ve.lit1v w1 (Ve.isv_of h.lenS h.capS (by have := h.bs; omega) (h.saw.below b1))) hu)
  have b2 := b1.trans ((low_lit w1 (.cells #[.slice S ns cs] 23)).mono b1.size)
  have g1 := g0.alloc (.cells #[.slice S ns cs] 23)
  obtain ⟨w2, hw2⟩ : ∃ w2, w1.alloc (.cells #[.slice S ns cs] 23) = w2 := ⟨_, rfl⟩
  rw [hw2] at g1 b2
  have G1 := Lib.hid g1
  have B2 := Lib.hid b2
  have LH := Lib.hid h.lenH
  have LS := Lib.hid h.lenS
  have CH := h.capH
  have CS := h.capS
  have bh := h.bh
  have bs := h.bs
  obtain ⟨z0, z1, -⟩ := g0
  obtain ⟨y0, y1, -⟩ := g1
  rw [hw2] at P
  clear h b1 b2
  by_cases hu0 : u = 0
  · subst hu0
    by_cases hl : nh ≤ 400
    · have i1 : ¬ (400 : Int) < (nh : Int) := by omega
      have HR := Lib.hid (show okFrom b.2 (-1, 0, 0) b.1 = r by rw [← right_go hu (by rw [LH.out]; exact hl)]; exact hr)
      obtain ⟨has, saw⟩ := b
      simp only at HR LH LS
      clear hr hu
      go_enter Try.func14, Try.ntmps14
      go_wp2_with fail
      refine P.out.mono ?_
      rintro e wx ⟨rfl, hwx⟩
      obtain rfl : wx = w2 := hwx
      clear hw1 hw2 z0 z1 P
      go_wp2_with fail
      go_loopw [19] (fun i wr => ∃ k : Nat, k ≤ nh ∧ i = .int .i64 k ∧ RightAt wx saw has k wr) (fun i _ => nh - (Go.RowKit.intOf i).toNat)
      case atStart => exact ⟨0, by omega, rfl, by simp [okFrom], Below.refl _ _⟩
      case round =>
        obtain ⟨k, hk, rfl, hok, hB⟩ := hrel
        have OK := Lib.hid hok
        have BB := Lib.hid hB
        clear hok
        by_cases hlt : k < nh
        · obtain ⟨⟨x0, x1, x2⟩, hx⟩ : ∃ x, has[k]? = some x := ⟨_, List.getElem?_eq_getElem (by rw [LH.out]; exact hlt)⟩
          have G2 := G1.out.below hB
          have FX := G2.2.2.fit (x0, x1, x2) (List.mem_of_getElem? hx)
          obtain ⟨bb, o, e, _, c0, c1, c2⟩ := tg_at G2.2.2.has hx
          simp only at c0 c1 c2
          have ST := Lib.hid (ok_step (s := saw) hx).1
          have HX := Lib.hid hx
          obtain ⟨v0, v1, -⟩ := G2
          have G3 := Lib.hid ((G1.out.below hB).alloc (.cells #[.int .i64 x0, .int .i64 x1, .int .i64 x2] 37))
          have B3 := Lib.hid (hB.trans ((low_lit wr (.cells #[.int .i64 x0, .int .i64 x1, .int .i64 x2] 37)).mono hB.size))
          have k3 := Known.made wr tT #[.int .i64 x0, .int .i64 x1, .int .i64 x2]
          obtain ⟨w3, hw3⟩ : ∃ w3, wr.alloc (.cells #[.int .i64 x0, .int .i64 x1, .int .i64 x2] 37) = w3 := ⟨_, rfl⟩
          rw [hw3] at G3 B3 k3
          have K3 := Lib.hid k3
          obtain ⟨t0, t1, -⟩ := G3.out
          have d0 := k3.cell 0
          have d1 := k3.cell 1
          have d2 := k3.cell 2
          simp at d0 d1 d2
          have j1 : (k : Int) < (nh : Int) := by omega
          subst e
          clear hx hB k3 FX
          by_cases hin : 0 ≤ x0 ∧ x0 < (ns : Int)
          · have II := Lib.hid (isIndex_c S ns cs x0 w3 true (decide_eq_true hin))
            by_cases hx1 : x1 < 1
            · have RF := Lib.hid (show r = false by
                rw [← HR.out]
                refine ok_false (k := k + 1) ?_
                rw [ST.out]
                have : okTag saw (x0, x1, x2) = false := by rw [← Bool.not_eq_true, okTag_iff]; intro h; have := h.2.2.1; simp only at this; omega
                rw [this]; simp)
              clear hin
              go_wp2_with fail
              refine II.out.mono ?_
              rintro e w4 ⟨rfl, hw4⟩
              rw [hw4]
              clear hw4
              go_wp2_with fail
              rw [RF.out]
              go_ret
              exact ⟨rfl, B2.out.trans (B3.out.mono B2.out.size)⟩
            · obtain ⟨q, hq⟩ : ∃ q, decide (x1 ≤ sawAt saw x0) = q := ⟨_, rfl⟩
              have KK := Lib.hid (isKnown_c (some ⟨bb, o, none⟩) S nh ch ns cs saw (x0, x1, x2) w3 LS.out bs G3.out.2.2.saw hin.1 hin.2 q hq)
              cases q with
              | false =>
                have RF := Lib.hid (show r = false by
                  rw [← HR.out]
                  refine ok_false (k := k + 1) ?_
                  rw [ST.out]
                  have : okTag saw (x0, x1, x2) = false := by rw [← Bool.not_eq_true, okTag_iff]; intro h; have := h.2.2.2; simp only at this; rw [decide_eq_false_iff_not] at hq; exact hq this
                  rw [this]; simp)
                clear hin hq
                go_wp2_with fail
                refine II.out.mono ?_
                rintro e w4 ⟨rfl, hw4⟩
                rw [hw4]
                clear hw4
                go_wp2_with fail
                refine KK.out.mono ?_
                rintro e w4 ⟨rfl, hb4⟩
                have B4 := Lib.hid (B3.out.trans (hb4.mono B3.out.size))
                clear hb4
                go_wp2_with fail
                rw [RF.out]
                go_ret
                exact ⟨rfl, B2.out.trans (B4.out.mono B2.out.size)⟩
              | true =>
                have TK := Lib.hid (show okTag saw (x0, x1, x2) = true from okTag_iff.2 ⟨hin.1, by rw [LS.out]; exact hin.2, by show 0 < x1; omega, of_decide_eq_true hq⟩)
                rw [TK.out] at ST
                clear hin hq
                go_wp2_with fail
                refine II.out.mono ?_
                rintro e w4 ⟨rfl, hw4⟩
                rw [hw4]
                clear hw4
                go_wp2_with fail
                refine KK.out.mono ?_
                rintro e w4 ⟨rfl, hb4⟩
                have B4 := Lib.hid (B3.out.trans (hb4.mono B3.out.size))
                have G4 := Lib.hid (G3.out.below hb4)
                have K4 := Lib.hid (K3.out.later hb4)
                clear hb4 t0 t1 d0 d1 d2 hw3 c0 c1 c2 v0 v1
                obtain ⟨t0, t1, -⟩ := G4.out
                have d0 := K4.out.cell 0
                have d1 := K4.out.cell 1
                have d2 := K4.out.cell 2
                simp at d0 d1 d2
                rcases Nat.eq_zero_or_pos k with hz | hz
                · subst hz
                  have OKN := Lib.hid (show okFrom saw (-1, 0, 0) (has.take (0 + 1)) = true by rw [ST.out, OK.out]; show klt (-1, 0, 0) (x0, x1, x2) = true; exact klt_first TK.out)
                  clear j1
                  go_upto_region 8 with fail
                  go_quiet (fail)
                  go_wp2_with fail
                  go_roundw
                  case rel => exact ⟨0 + 1, by omega, by go_num, OKN.out, below_drewN B4.out _⟩
                  case measure => simp [Go.RowKit.intOf]; omega
                · obtain ⟨m, rfl⟩ : ∃ m, k = m + 1 := ⟨k - 1, by omega⟩
                  obtain ⟨⟨p0, p1, p2⟩, hp⟩ : ∃ x, has[m]? = some x := ⟨_, List.getElem?_eq_getElem (by rw [LH.out]; omega)⟩
                  obtain ⟨bb2, o2, e2, _, c0, c1, c2⟩ := tg_at G4.out.2.2.has hp
                  injection e2 with e2
                  injection e2 with e3 e4
                  subst e3 e4
                  simp only at c0 c1 c2
                  have ST2 := Lib.hid (show okFrom saw (-1, 0, 0) (has.take (m + 1 + 1)) = klt (p0, p1, p2) (x0, x1, x2) by rw [ST.out, OK.out, last_take hp]; simp)
                  have J := Lib.hid (fun V => order_b (p0, p1, p2) (x0, x1, x2) V)
                  have OL := ord_lt (p0, p1, p2) (x0, x1, x2)
                  obtain ⟨g, hg⟩ : ∃ g, ord (p0, p1, p2) (x0, x1, x2) = g := ⟨_, rfl⟩
                  rw [hg] at J OL
                  rw [← OL] at ST2
                  obtain ⟨kk, hkk⟩ : ∃ kk, kk = m + 1 := ⟨_, rfl⟩
                  have wm : IntKind.i64.wrap ((kk : Int) - 1) = (m : Int) := by rw [show (kk : Int) - 1 = (m : Int) by omega]; exact IntWalk.i64_in _ (by omega)
                  have j0 : (m : Int) < (nh : Int) := by omega
                  have j2 : (0 : Int) < (kk : Int) := by omega
                  have j3 : 0 < kk := by omega
                  rw [← hkk] at j1 ST2 OK hlt hk hz ⊢
                  have f0 : ∀ d os, (grow (redrawn w4 d) os).cell? _ = _ := fun d os => cell_regrown t0 d os
                  have f1 : ∀ d os, (grow (redrawn w4 d) os).cell? _ = _ := fun d os => cell_regrown c0 d os
                  have f2 : ∀ d os, (grow (redrawn w4 d) os).cell? _ = _ := fun d os => cell_regrown c1 d os
                  have f3 : ∀ d os, (grow (redrawn w4 d) os).cell? _ = _ := fun d os => cell_regrown c2 d os
                  have f4 : ∀ d os, (grow (redrawn w4 d) os).cell? _ = _ := fun d os => cell_regrown d0 d os
                  have f5 : ∀ d os, (grow (redrawn w4 d) os).cell? _ = _ := fun d os => cell_regrown d1 d os
                  have f6 : ∀ d os, (grow (redrawn w4 d) os).cell? _ = _ := fun d os => cell_regrown d2 d os
                  have HKK := Lib.hid hkk
                  have HLT := Lib.hid hlt
                  clear hp hg hkk OL hlt hk hz
                  go_upto_region 8 with fail
                  refine wp_region_quiet_below (by kernel_rfl) (by kernel_rfl) ?_
                  repeat (go_big_quiet_step (first
                    | (go_at_call 31; refine Calls.regrown_of (J.out _))))
                  refine wpQuiet_nil ?_
                  intro _ hw'
                  obtain ⟨⟨dd, os⟩, hw''⟩ := hw'
                  obtain ⟨w10, hw10⟩ : ∃ w10, grow (redrawn w4 dd) os = w10 := ⟨_, rfl⟩
                  have hb10 : Below w4.heap.size w4 w10 := hw10 ▸ below_regrown w4 dd os
                  subst hw''
                  clear f0 f1 f2 f3 f4 f5 f6
                  simp only [hw10]
                  have B5 := Lib.hid (B4.out.trans (hb10.mono B4.out.size))
                  clear hw10 hb10 t0 t1 d0 d1 d2 c0 c1 c2
                  by_cases hlz : g < 0
                  · have E := Lib.hid (show okFrom saw (-1, 0, 0) (has.take (kk + 1)) = true by rw [ST2.out]; exact decide_eq_true hlz)
                    have q1 : ¬ 0 ≤ g := by omega
                    clear hlz
                    go_wp2_with fail
                    go_roundw
                    case rel => exact ⟨kk + 1, by have := HLT.out; omega, by go_num, E.out, B5.out⟩
                    case measure => have := HLT.out; have := HKK.out; simp [Go.RowKit.intOf]; omega
                  · have RF := Lib.hid (show r = false by
                      rw [← HR.out]
                      refine ok_false (k := kk + 1) ?_
                      rw [ST2.out]; exact decide_eq_false hlz)
                    have q1 : 0 ≤ g := by omega
                    clear hlz
                    go_wp2_with fail
                    rw [RF.out]
                    go_ret
                    exact ⟨rfl, B2.out.trans (B5.out.mono B2.out.size)⟩
          · have II := Lib.hid (isIndex_c S ns cs x0 w3 false (decide_eq_false hin))
            have RF := Lib.hid (show r = false by
              rw [← HR.out]
              refine ok_false (k := k + 1) ?_
              rw [ST.out]
              have : okTag saw (x0, x1, x2) = false := by rw [← Bool.not_eq_true, okTag_iff]; intro h; exact hin ⟨h.1, by rw [← LS.out]; exact h.2.1⟩
              rw [this]; simp)
            clear hin
            go_wp2_with fail
            refine II.out.mono ?_
            rintro e w4 ⟨rfl, hw4⟩
            rw [hw4]
            clear hw4
            go_wp2_with fail
            rw [RF.out]
            go_ret
            exact ⟨rfl, B2.out.trans (B3.out.mono B2.out.size)⟩
        · obtain rfl : k = nh := by omega
          have RF := Lib.hid (show r = true by rw [← HR.out, ← OK.out, List.take_of_length_le (Nat.le_of_eq LH.out)])
          clear hB
          go_wp2_with fail
          rw [RF.out]
          go_ret
          exact ⟨rfl, B2.out.trans (BB.out.mono B2.out.size)⟩
    · have i1 : (400 : Int) < (nh : Int) := by omega
      have RF := Lib.hid (show r = false by rw [← hr]; exact right_no2 (by rw [LH.out]; omega))
      clear hr hu
      go_enter Try.func14, Try.ntmps14
      go_wp2_with fail
      refine P.out.mono ?_
      rintro e wx ⟨rfl, hwx⟩
      obtain rfl : wx = w2 := hwx
      clear hw1 hw2 z0 z1 P
      go_wp2_with fail
      rw [RF.out]
      go_ret
      exact ⟨rfl, B2.out⟩
  · have q1 : (u != 0) = true := by simpa using hu0
    have RF := Lib.hid (show r = false by rw [← hr]; exact right_no1 (by rw [hu]; exact hu0))
    clear hr hu hu0
    go_enter Try.func14, Try.ntmps14
    go_wp2_with fail
    refine P.out.mono ?_
    rintro e wx ⟨rfl, hwx⟩
    obtain rfl : wx = w2 := hwx
    clear hw1 hw2 z0 z1 P
    go_wp2_with fail
    rw [RF.out]
    go_ret
    exact ⟨rfl, B2.out⟩
end Go.Proofs.Ythebilmeehnkpaa.Ors
