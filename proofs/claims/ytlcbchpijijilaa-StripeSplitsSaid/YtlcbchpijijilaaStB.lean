/-
  Package stripe: Where, Back, wrongRange.
-/
import Derived.Test.YtlcbchpijijilaaStA
namespace Go.Proofs.Ytlcbchpijijilaa.Stripe
set_option linter.unusedVariables false
open Go.RowKit Mem

/-- A layout's block, read later. -/
theorem box_cells {w V : World} {a b c : Int} (hb : Below (w.alloc (.cells #[.int .i64 a, .int .i64 b, .int .i64 c] 23)).heap.size (w.alloc (.cells #[.int .i64 a, .int .i64 b, .int .i64 c] 23)) V) :
    V.cell? ⟨w.heap.size, 0, none⟩ = some (.int .i64 a) ∧ V.cell? ⟨w.heap.size, 1, none⟩ = some (.int .i64 b) ∧ V.cell? ⟨w.heap.size, 2, none⟩ = some (.int .i64 c) := by
  have k := (Known.made w 23 #[.int .i64 a, .int .i64 b, .int .i64 c]).later hb
  exact ⟨k.cell 0, k.cell 1, k.cell 2⟩
theorem below_box {w V : World} {o : Obj} (hb : Below (w.alloc o).heap.size (w.alloc o) V) : Below w.heap.size w V :=
  ((Below.refl _ _).alloc (Nat.le_refl _) _).trans (hb.mono (by simp))
theorem Ok.z {U W D : Nat} (h : Ok U W D) : OkZ U W D := by obtain ⟨⟨h1, h2⟩, ⟨h3, h4⟩, h5, h6⟩ := h; exact ⟨⟨by omega, by omega⟩, ⟨by omega, by omega⟩, by omega, by omega⟩
theorem OkZ.n {u w d : Int} (h : OkZ u w d) : ∃ U W D : Nat, u = U ∧ w = W ∧ d = D ∧ Ok U W D := by
  obtain ⟨⟨h1, h2⟩, ⟨h3, h4⟩, h5, h6⟩ := h
  exact ⟨u.toNat, w.toNat, d.toNat, by omega, by omega, by omega, ⟨by omega, by omega⟩, ⟨by omega, by omega⟩, by omega, by omega⟩

theorem where_form (u w d n : Int) (V : World) (h : ¬ OkZ u w d) :
    Calls Try.prog 9 #[.agg #[.int .i64 u, .int .i64 w, .int .i64 d], .int .i64 n] V (Gave (.tuple #[.int .i64 0, .int .i64 0, .int .i64 1]) V) := by
  have H := Lib.hid (fun V => right_no u w d V h)
  clear h
  go_enter Try.func9, Try.ntmps9
  go_wp2_with fail
  refine (H.out _).mono ?_
  rintro e w1 ⟨rfl, hb⟩
  have HB := Lib.hid hb
  clear hb
  go_wp2
  go_ret3
  exact ⟨rfl, below_box HB.out⟩
theorem where_range (U W D : Nat) (n : Int) (V : World) (h : Ok U W D) (hn : ¬ (0 ≤ n ∧ n ≤ 1099511627776)) :
    Calls Try.prog 9 #[.agg #[.int .i64 U, .int .i64 W, .int .i64 D], .int .i64 n] V (Gave (.tuple #[.int .i64 0, .int .i64 0, .int .i64 2]) V) := by
  have H := Lib.hid (fun V => right_yes U W D V h.z)
  have H2 := Lib.hid (fun V => between_no n 0 1099511627776 V hn)
  clear h hn
  go_enter Try.func9, Try.ntmps9
  go_wp2_with fail
  refine (H.out _).mono ?_
  rintro e w1 ⟨rfl, hb⟩
  have HB := Lib.hid hb
  clear hb
  go_wp2_with ((with_reducible refine (H2.out _).mono ?_); rintro e w' ⟨rfl, rfl⟩)
  go_ret3
  exact ⟨rfl, below_box HB.out⟩
theorem where_ok (U W D n : Nat) (V : World) (h : Ok U W D) (hn : n ≤ 1099511627776) :
    Calls Try.prog 9 #[.agg #[.int .i64 U, .int .i64 W, .int .i64 D], .int .i64 n] V (Gave (.tuple #[.int .i64 (objOf U W D n), .int .i64 (frOf U W D n), .int .i64 0]) V) := by
  have H := Lib.hid (fun V => right_yes U W D V h.z)
  have H2 := Lib.hid (fun V => between_yes (n : Int) 0 1099511627776 V (by omega) (by omega))
  have H3 := Lib.hid (fun V => place_c U W D n V h hn)
  clear h hn
  go_enter Try.func9, Try.ntmps9
  go_wp2_with fail
  refine (H.out _).mono ?_
  rintro e w1 ⟨rfl, hb⟩
  obtain ⟨c0, c1, c2⟩ := box_cells hb
  have HB := Lib.hid hb
  clear hb
  go_wp2_with ((with_reducible refine (H2.out _).mono ?_); rintro e w' ⟨rfl, rfl⟩)
  refine (H3.out _).mono ?_
  rintro e w2 ⟨rfl, hb2⟩
  have HB2 := Lib.hid (HB.out.trans (hb2.mono HB.out.size))
  clear hb2
  go_wp2
  go_ret3
  exact ⟨rfl, below_box HB2.out⟩

theorem back_form (u w d o f : Int) (V : World) (h : ¬ OkZ u w d) :
    Calls Try.prog 10 #[.agg #[.int .i64 u, .int .i64 w, .int .i64 d], .int .i64 o, .int .i64 f] V (Gave (.tuple #[.int .i64 0, .int .i64 1]) V) := by
  have H := Lib.hid (fun V => right_no u w d V h)
  clear h
  go_enter Try.func10, Try.ntmps10
  go_wp2_with fail
  refine (H.out _).mono ?_
  rintro e w1 ⟨rfl, hb⟩
  have HB := Lib.hid hb
  clear hb
  go_wp2
  go_ret2
  exact ⟨rfl, below_box HB.out⟩
theorem back_range (U W D : Nat) (o f : Int) (V : World) (h : Ok U W D) (hn : ¬ ((0 ≤ o ∧ o ≤ 1099511627776) ∧ 0 ≤ f ∧ f < (U * D : Nat))) :
    Calls Try.prog 10 #[.agg #[.int .i64 U, .int .i64 W, .int .i64 D], .int .i64 o, .int .i64 f] V (Gave (.tuple #[.int .i64 0, .int .i64 2]) V) := by
  have H := Lib.hid (fun V => right_yes U W D V h.z)
  obtain ⟨⟨h1, h2⟩, ⟨h3, h4⟩, h5, h6⟩ := h
  have k1 : U * D ≤ 1048576 * 1024 := mul_le (by omega) (by omega)
  have p1 := @muls U D
  generalize hx : U * D = x at *
  clear hx
  by_cases h7 : 0 ≤ o ∧ o ≤ 1099511627776
  · have H2 := Lib.hid (fun V => between_yes o 0 1099511627776 V h7.1 h7.2)
    have H3 := Lib.hid (fun V => between_no f 0 ((x : Int) - 1) V (fun k => hn ⟨h7, k.1, by omega⟩))
    clear hn h7
    go_enter Try.func10, Try.ntmps10
    go_wp2_with fail
    refine (H.out _).mono ?_
    rintro e w1 ⟨rfl, hb⟩
    obtain ⟨c0, c1, c2⟩ := box_cells hb
    have HB := Lib.hid hb
    clear hb
    go_wp2_with (first | ((with_reducible refine (H2.out _).mono ?_); rintro e w' ⟨rfl, rfl⟩) | ((with_reducible refine (H3.out _).mono ?_); rintro e w' ⟨rfl, rfl⟩))
    go_ret2
    exact ⟨rfl, below_box HB.out⟩
  · have H2 := Lib.hid (fun V => between_no o 0 1099511627776 V h7)
    clear hn h7
    go_enter Try.func10, Try.ntmps10
    go_wp2_with fail
    refine (H.out _).mono ?_
    rintro e w1 ⟨rfl, hb⟩
    obtain ⟨c0, c1, c2⟩ := box_cells hb
    have HB := Lib.hid hb
    clear hb
    go_wp2_with ((with_reducible refine (H2.out _).mono ?_); rintro e w' ⟨rfl, rfl⟩)
    go_ret2
    exact ⟨rfl, below_box HB.out⟩
theorem bk_un (U W D o f : Nat) : bk U W D o f = unOf W D o (f / U) * U + f % U := rfl
/-- The answer of Back in the ranges. -/
def backIs (n : Nat) : Value := if n ≤ 1099511627776 then .tuple #[.int .i64 n, .int .i64 0] else .tuple #[.int .i64 0, .int .i64 3]
set_option maxHeartbeats 1000000 in
theorem back_in (U W D o f : Nat) (V : World) (h : Ok U W D) (ho : o ≤ 1099511627776) (hf : f < U * D) :
    Calls Try.prog 10 #[.agg #[.int .i64 U, .int .i64 W, .int .i64 D], .int .i64 o, .int .i64 f] V (Gave (backIs (bk U W D o f)) V) := by
  have H := Lib.hid (fun V => right_yes U W D V h.z)
  have b1 : f / U ≤ f := Nat.div_le_self _ _
  have k1 : U * D ≤ 1048576 * 1024 := by obtain ⟨⟨h1, h2⟩, ⟨h3, h4⟩, h5, h6⟩ := h; exact mul_le (by omega) (by omega)
  have b0 : f / U < D := Nat.div_lt_of_lt_mul hf
  have hD := h.2.2.2
  have H4 := Lib.hid (fun V => unitAt_c U W D o (f / U) V h ho (by omega))
  obtain ⟨⟨h1, h2⟩, ⟨h3, h4⟩, h5, h6⟩ := h
  have k2 := (unOf_le (W := W) (D := D) (o := o) (d := f / U) h3 h4 h6 ho (by omega)).1
  have k3 : unOf W D o (f / U) ≤ 118747255799808000 + 100 := by
    have := Nat.mod_lt o h3
    unfold unOf; omega
  have hE := Lib.hid (bk_un U W D o f)
  have b2 : f % U < U := Nat.mod_lt _ (by omega)
  have p1 := @muls U D
  have q1 := @divs f U
  have m1 := @mods f U
  have t1 := @tmods f U
  have t2 := @tdivs f U
  have e0 : ((1099511627776 : Nat) : Int) = 1099511627776 := rfl
  have q2 := @divs 1099511627776 U
  have t3 := @tdivs 1099511627776 U
  rw [e0] at q2 t3
  have g1 := Nat.div_add_mod' 1099511627776 U
  have g2 : 1099511627776 % U < U := Nat.mod_lt _ (by omega)
  have p2 := @muls (unOf W D o (f / U)) U
  have g3 : 1099511627776 / U ≤ 1099511627776 := Nat.div_le_self _ _
  have H2 := Lib.hid (fun V => between_yes (o : Int) 0 1099511627776 V (by omega) (by omega))
  have H3 := Lib.hid (fun V => between_yes (f : Int) 0 (((U * D : Nat) : Int) - 1) V (by omega) (by omega))
  have n1 : ((U : Int) == 0) = false := by simp; omega
  have gt : 1099511627776 / U < unOf W D o (f / U) → 1099511627776 < unOf W D o (f / U) * U := fun k => by
    have := Nat.mul_le_mul_right U k
    rw [Nat.succ_eq_add_one, Nat.add_mul, Nat.one_mul] at this
    omega
  have le : unOf W D o (f / U) ≤ 1099511627776 / U → unOf W D o (f / U) * U ≤ 1099511627776 := fun k => by
    have := Nat.mul_le_mul_right U k
    omega
  generalize hM : 1099511627776 / U = M at *
  generalize hR : 1099511627776 % U = R at *
  generalize hx : U * D = x at *
  generalize hy : unOf W D o (f / U) = y at *
  generalize hq : f / U = q at *
  generalize hb : f % U = b at *
  generalize hz : y * U = z at *
  clear hM hR hx hy hq hb hz e0 g1 g2
  have nz : ¬ U = 0 := by omega
  have wq : IntKind.i64.wrap (q : Int) = q := IntWalk.i64_in _ (by omega)
  by_cases j1 : M < y
  · have hE2 := Lib.hid (show backIs (bk U W D o f) = .tuple #[.int .i64 0, .int .i64 3] by have := gt j1; unfold backIs; rw [hE.out, if_neg (by omega)])
    have j2 : (M : Int) < (y : Int) := by omega
    clear gt le hE
    go_enter Try.func10, Try.ntmps10
    go_wp2_with fail
    refine (H.out _).mono ?_
    rintro e w1 ⟨rfl, hb⟩
    obtain ⟨c0, c1, c2⟩ := box_cells hb
    have HB := Lib.hid hb
    clear hb
    go_wp2_with (first | ((with_reducible refine (H2.out _).mono ?_); rintro e w' ⟨rfl, rfl⟩) | ((with_reducible refine (H3.out _).mono ?_); rintro e w' ⟨rfl, rfl⟩))
    refine Mem.region_tail 6 (by kernel_rfl) (by kernel_rfl) ?_
    simp only [List.take_succ_cons, List.take_zero, List.drop_succ_cons, List.drop_zero]
    repeat still_step
    refine wpStill_nil ?_
    go_wp2_with fail
    refine (H4.out _).mono ?_
    rintro e w2 ⟨rfl, hb2⟩
    have hb3 := (below_drew HB.out).trans (hb2.mono HB.out.size)
    obtain ⟨d0, d1, d2⟩ := box_cells hb3
    have HB2 := Lib.hid hb3
    clear hb2 hb3 c0 c1 c2
    go_wp2
    go_ret2
    exact ⟨by rw [hE2.out]; rfl, below_box HB2.out⟩
  · have j2 : ¬ (M : Int) < (y : Int) := by omega
    have j3 := le (by omega)
    clear gt le
    by_cases j4 : z + b ≤ 1099511627776
    · have hE2 := Lib.hid (show backIs (bk U W D o f) = .tuple #[.int .i64 ((z : Int) + (b : Int)), .int .i64 0] by unfold backIs; rw [hE.out, if_pos j4]; simp)
      have j5 : (z : Int) + (b : Int) ≤ 1099511627776 := by omega
      clear hE
      go_enter Try.func10, Try.ntmps10
      go_wp2_with fail
      refine (H.out _).mono ?_
      rintro e w1 ⟨rfl, hb⟩
      obtain ⟨c0, c1, c2⟩ := box_cells hb
      have HB := Lib.hid hb
      clear hb
      go_wp2_with (first | ((with_reducible refine (H2.out _).mono ?_); rintro e w' ⟨rfl, rfl⟩) | ((with_reducible refine (H3.out _).mono ?_); rintro e w' ⟨rfl, rfl⟩))
      refine Mem.region_tail 6 (by kernel_rfl) (by kernel_rfl) ?_
      simp only [List.take_succ_cons, List.take_zero, List.drop_succ_cons, List.drop_zero]
      repeat still_step
      refine wpStill_nil ?_
      go_wp2_with fail
      refine (H4.out _).mono ?_
      rintro e w2 ⟨rfl, hb2⟩
      have hb3 := (below_drew HB.out).trans (hb2.mono HB.out.size)
      obtain ⟨d0, d1, d2⟩ := box_cells hb3
      have HB2 := Lib.hid hb3
      clear hb2 hb3 c0 c1 c2
      go_wp2
      go_quiet (fail)
      go_wp2
      go_ret2
      exact ⟨by rw [hE2.out]; rfl, below_box (below_drewN HB2.out _)⟩
    · have hE2 := Lib.hid (show backIs (bk U W D o f) = .tuple #[.int .i64 0, .int .i64 3] by unfold backIs; rw [hE.out, if_neg j4])
      have j5 : ¬ (z : Int) + (b : Int) ≤ 1099511627776 := by omega
      clear hE
      go_enter Try.func10, Try.ntmps10
      go_wp2_with fail
      refine (H.out _).mono ?_
      rintro e w1 ⟨rfl, hb⟩
      obtain ⟨c0, c1, c2⟩ := box_cells hb
      have HB := Lib.hid hb
      clear hb
      go_wp2_with (first | ((with_reducible refine (H2.out _).mono ?_); rintro e w' ⟨rfl, rfl⟩) | ((with_reducible refine (H3.out _).mono ?_); rintro e w' ⟨rfl, rfl⟩))
      refine Mem.region_tail 6 (by kernel_rfl) (by kernel_rfl) ?_
      simp only [List.take_succ_cons, List.take_zero, List.drop_succ_cons, List.drop_zero]
      repeat still_step
      refine wpStill_nil ?_
      go_wp2_with fail
      refine (H4.out _).mono ?_
      rintro e w2 ⟨rfl, hb2⟩
      have hb3 := (below_drew HB.out).trans (hb2.mono HB.out.size)
      obtain ⟨d0, d1, d2⟩ := box_cells hb3
      have HB2 := Lib.hid hb3
      clear hb2 hb3 c0 c1 c2
      go_wp2
      go_quiet (fail)
      go_wp2
      go_ret2
      exact ⟨by rw [hE2.out]; rfl, below_box (below_drewN HB2.out _)⟩
end Go.Proofs.Ytlcbchpijijilaa.Stripe
