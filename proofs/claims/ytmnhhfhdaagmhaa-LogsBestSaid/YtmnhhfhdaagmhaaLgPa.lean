/-
  Package logs, the program: Right, last, isLater.
-/
import Derived.Test.YtmnhhfhdaagmhaaLgRef
namespace Go.Proofs.Ytmnhhfhdaagmhaa.Lg
set_option linter.unusedVariables false
set_option linter.unusedSimpArgs false
open Go.RowKit Mem Gt
open Jump (Gave equalZ_c)

theorem sizeEn : (Try.prog.info? tE).map (fun i => i.size) = some 3 := by kernel_rfl
theorem ok_false {l : List En} {k : Nat} (h : okFrom 0 0 (l.take k) = false) : okL l = false := by
  cases e : okL l with
  | false => rfl
  | true =>
    unfold okL at e
    rw [Bool.and_eq_true] at e
    rw [okFrom_take k e.2] at h
    cases h
set_option maxRecDepth 100000 in
set_option maxHeartbeats 8000000 in
theorem right_c (A : Option Addr) (l : List En) (n ca : Nat) (V : World) (hn : l.length = n) (hbig : n ≤ 140737488355328) (hx : Reads V A (flat enE l)) : Calls Try.prog 12 #[.slice A n ca] V (Gave (.bool (okL l)) V) := by
  by_cases h4 : 400 < n
  · have e : okL l = false := by unfold okL; rw [decide_eq_false (by omega)]; rfl
    rw [e]
    have i1 : (400 : Int) < (n : Int) := by omega
    clear hx hn e
    go_enter Try.func12, Try.ntmps12
    go_wp2
    go_ret
    exact ⟨rfl, Below.refl _ _⟩
  · have HX := Lib.hid hx
    have HN := Lib.hid hn
    have H4 := Lib.hid (show l.length ≤ 400 by omega)
    have i1 : ¬ (400 : Int) < (n : Int) := by omega
    clear hx hn h4
    go_enter Try.func12, Try.ntmps12
    go_wp2_with fail
    go_loopw [12] (fun i wr => ∃ (k : Nat) (e0 n0 k0 : Int), k ≤ n ∧ i = .int .i64 k ∧ okFrom 0 0 (l.take k) = true ∧ e0 = eOf (l.take k) ∧ n0 = nOf (l.take k) ∧ Known wr V.heap.size tE #[.int .i64 e0, .int .i64 n0, .int .i64 k0] ∧ Below V.heap.size V wr) (fun i _ => n - (intOf i).toNat)
    case atStart => exact ⟨0, 0, 0, 0, by omega, rfl, rfl, rfl, rfl, Known.made _ _ _, low_lit _ _⟩
    case round =>
      obtain ⟨k, e0, n0, k0, hk, rfl, hok, he, hm, hK, hB⟩ := hrel
      clear i1
      have BB := Lib.hid hB
      by_cases hlt : k < n
      · have kl : k < l.length := by rw [HN.out]; exact hlt
        obtain ⟨⟨x0, x1, x2⟩, hx⟩ : ∃ x, l[k]? = some x := ⟨_, List.getElem?_eq_getElem kl⟩
        obtain ⟨b1, o1, rfl, hb1, y0, y1, y2⟩ := en_at (HX.out.below hB) hx
        obtain ⟨s1, s2, s3⟩ := ok_step hx
        rw [← he, ← hm, hok, Bool.true_and] at s1
        have SE := Lib.hid s2
        have SN := Lib.hid s3
        have SC := Lib.hid s1
        obtain ⟨d0, d1, d2⟩ := box_en (w := wr) (x0, x1, x2)
        have K1 := hK.alloc (.cells #[.int .i64 x0, .int .i64 x1, .int .i64 x2] tE)
        have c0 := K1.cell 0
        have c1 := K1.cell 1
        have c2 := K1.cell 2
        have f0 := K1.free 0
        have f1 := K1.free 1
        have f2 := K1.free 2
        have B1 := Lib.hid (hB.trans ((low_lit wr (.cells #[.int .i64 x0, .int .i64 x1, .int .i64 x2] tE)).mono hB.size))
        have KK := Lib.hid (((K1.put 0 (.int .i64 x0)).put 1 (.int .i64 x1)).put 2 (.int .i64 x2))
        have BK := Lib.hid (((B1.out.setCell (p := ⟨V.heap.size, 0, none⟩) (Nat.le_refl _) (.int .i64 x0)).setCell (p := ⟨V.heap.size, 1, none⟩) (Nat.le_refl _) (.int .i64 x1)).setCell (p := ⟨V.heap.size, 2, none⟩) (Nat.le_refl _) (.int .i64 x2))
        have NV : ¬ V.heap.size = wr.heap.size := by have := hK.lt; omega
        simp only at y0 y1 y2 d0 d1 d2 SE SN SC
        simp at c0 c1 c2
        have j0 : (k : Int) < (n : Int) := by omega
        clear kl hx hb1 he hm hB s1 s2 s3 hK K1 hok
        by_cases h1 : x0 < e0
        · have E := Lib.hid (show okL l = false from ok_false (k := k + 1) (by rw [SC.out, decide_eq_false (show ¬ e0 ≤ x0 by omega)]; rfl))
          go_wp2
          rw [E.out]
          go_ret
          exact ⟨rfl, B1.out⟩
        · by_cases h2 : x1 ≤ n0
          · have E := Lib.hid (show okL l = false from ok_false (k := k + 1) (by rw [SC.out, decide_eq_false (show ¬ n0 < x1 by omega), Bool.and_false]))
            go_wp2
            rw [E.out]
            go_ret
            exact ⟨rfl, B1.out⟩
          · have E := Lib.hid (show okFrom 0 0 (l.take (k + 1)) = true by rw [SC.out, decide_eq_true (show n0 < x1 by omega), decide_eq_true (show e0 ≤ x0 by omega)]; rfl)
            go_wp2
            go_roundw
            case rel => exact ⟨k + 1, x0, x1, x2, by omega, by go_num, E.out, SE.out.symm, SN.out.symm, KK.out, BK.out⟩
            case measure => simp [intOf]; omega
      · obtain rfl : k = n := by omega
        have E := Lib.hid (show okL l = true by
          rw [List.take_of_length_le (by rw [HN.out]; exact Nat.le_refl _)] at hok
          unfold okL
          rw [hok, decide_eq_true H4.out]; rfl)
        clear hok he hm hB hK
        go_wp2
        rw [E.out]
        go_ret
        exact ⟨rfl, BB.out⟩
def lastE (l : List En) : En := l.getLast?.getD (0, 0, 0)
def aggE (e : En) : Value := .agg #[.int .i64 e.1, .int .i64 e.2.1, .int .i64 e.2.2]
set_option maxRecDepth 100000 in
set_option maxHeartbeats 8000000 in
theorem last_c (A : Option Addr) (l : List En) (n ca : Nat) (V : World) (hn : l.length = n) (hbig : n ≤ 140737488355328) (hx : Reads V A (flat enE l)) : Calls Try.prog 25 #[.slice A n ca] V (Gave (aggE (lastE l)) V) := by
  by_cases h0 : n = 0
  · subst h0
    obtain rfl := List.eq_nil_of_length_eq_zero hn
    clear hx hn
    go_enter Try.func25, Try.ntmps25
    go_wp2
    refine bodyPost_ret (v := aggE (0, 0, 0)) ?_ rfl ⟨rfl, low_lit _ _⟩
    exact results_cell_row rfl _ _ V.heap.size tE _ (0, 0) _ rfl (Known.made _ _ _) Try.underlying32 rfl sizeEn
  · obtain ⟨r, hr⟩ : ∃ r, n = r + 1 := ⟨n - 1, by omega⟩
    have kl : r < l.length := by omega
    obtain ⟨⟨x0, x1, x2⟩, hr2⟩ : ∃ x, l[r]? = some x := ⟨_, List.getElem?_eq_getElem kl⟩
    have HL : lastE l = (x0, x1, x2) := by unfold lastE; rw [List.getLast?_eq_getElem?, show l.length - 1 = r by omega, hr2]; rfl
    rw [HL]
    obtain ⟨b1, o1, rfl, hb1, y0, y1, y2⟩ := en_at hx hr2
    have LW := low_lit V (.cells #[.int .i64 0, .int .i64 0, .int .i64 0] tE)
    have z0 := (LW.cell (World.block_lt_of_cell? _ _ y0)).trans y0
    have z1 := (LW.cell (World.block_lt_of_cell? _ _ y1)).trans y1
    have z2 := (LW.cell (World.block_lt_of_cell? _ _ y2)).trans y2
    have q0 : ((n : Int) == 0) = false := by simp; omega
    have wq : IntKind.i64.wrap ((n : Int) - 1) = (r : Int) := by rw [IntWalk.i64_in _ (by omega)]; omega
    have rq : (r : Int) < (n : Int) := by omega
    simp only at y0 y1 y2 z0 z1 z2
    clear hx hn kl hr2 HL hb1 LW y0 y1 y2 hr
    go_enter Try.func25, Try.ntmps25
    go_wp2
    refine bodyPost_ret (v := aggE (x0, x1, x2)) ?_ rfl ⟨rfl, low_lit _ _⟩
    exact results_cell_row rfl _ _ V.heap.size tE _ (0, 0) _ rfl (Known.made _ _ _) Try.underlying32 rfl sizeEn
set_option maxRecDepth 100000 in
set_option maxHeartbeats 8000000 in
theorem later_c (a b : En) (V : World) : Calls Try.prog 26 #[.agg #[.int .i64 a.1, .int .i64 a.2.1, .int .i64 a.2.2], .agg #[.int .i64 b.1, .int .i64 b.2.1, .int .i64 b.2.2]] V (Gave (.bool (higher a b)) V) := by
  obtain ⟨a0, a1, a2⟩ := a
  obtain ⟨b0, b1, b2⟩ := b
  simp only
  have hA := Mem.Known.made V tE #[.int .i64 a0, .int .i64 a1, .int .i64 a2]
  have hA' := hA.alloc (.cells #[.int .i64 b0, .int .i64 b1, .int .i64 b2] tE)
  have hB := Mem.Known.made (V.alloc (.cells #[.int .i64 a0, .int .i64 a1, .int .i64 a2] tE)) tE #[.int .i64 b0, .int .i64 b1, .int .i64 b2]
  have y0 := hA'.cell 0
  have y1 := hA'.cell 1
  have z0 := hB.cell 0
  have z1 := hB.cell 1
  rw [show (V.alloc (.cells #[.int .i64 a0, .int .i64 a1, .int .i64 a2] tE)).heap.size = V.heap.size + 1 by simp] at z0 z1
  simp at y0 y1 z0 z1
  have BL := Lib.hid ((low_lit V (.cells #[.int .i64 a0, .int .i64 a1, .int .i64 a2] tE)).alloc (by simp) (.cells #[.int .i64 b0, .int .i64 b1, .int .i64 b2] tE))
  clear hA hA' hB
  by_cases h1 : b0 < a0
  · have E : higher (a0, a1, a2) (b0, b1, b2) = true := by unfold higher; simp [h1]
    rw [E]
    clear E
    go_enter Try.func26, Try.ntmps26
    go_wp2
    go_ret
    exact ⟨rfl, BL.out⟩
  · by_cases h2 : a0 = b0
    · subst h2
      have E : higher (a0, a1, a2) (a0, b1, b2) = decide (b1 < a1) := by unfold higher; simp
      rw [E]
      clear E h1
      have h1 : ¬ a0 < a0 := by omega
      have h3 : (a0 == a0) = true := by simp
      go_enter Try.func26, Try.ntmps26
      go_wp2
      go_ret
      exact ⟨rfl, BL.out⟩
    · have h3 : (a0 == b0) = false := by simpa using h2
      have E : higher (a0, a1, a2) (b0, b1, b2) = false := by unfold higher; simp [h1, h2]
      rw [E]
      clear E h2
      go_enter Try.func26, Try.ntmps26
      go_wp2
      go_ret
      exact ⟨rfl, BL.out⟩
end Go.Proofs.Ytmnhhfhdaagmhaa.Lg
