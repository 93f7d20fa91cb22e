/-
  The document's own answers on stripes: FRight, FWhere.
-/
import Derived.Test.YtlcbchpijijilaaStB
namespace Go.Proofs.Ytlcbchpijijilaa.Stripe
set_option linter.unusedVariables false
open Go.RowKit Mem

theorem in_yes (x m : Int) (W : World) (h1 : 1 ≤ x) (h2 : x ≤ m) : Calls Try.prog 26 #[.int .i64 x, .int .i64 m] W (BoolIs true W) := by
  go_enter Try.func26, Try.ntmps26
  go_wp2
  go_ret
  exact ⟨rfl, rfl⟩
theorem in_no (x m : Int) (W : World) (h : ¬ (1 ≤ x ∧ x ≤ m)) : Calls Try.prog 26 #[.int .i64 x, .int .i64 m] W (BoolIs false W) := by
  by_cases h1 : 1 ≤ x
  · have h2 : ¬ x ≤ m := fun h2 => h ⟨h1, h2⟩
    clear h
    go_enter Try.func26, Try.ntmps26
    go_wp2
    go_ret
    exact ⟨rfl, rfl⟩
  · have h2 : ¬ 0 < x := by omega
    clear h
    go_enter Try.func26, Try.ntmps26
    go_wp2
    go_ret
    exact ⟨rfl, rfl⟩
theorem fright_yes (u w d : Int) (W : World) (h : OkZ u w d) : Calls Try.prog 12 #[.agg #[.int .i64 u, .int .i64 w, .int .i64 d]] W (Gave (.bool true) W) := by
  obtain ⟨⟨h1, h2⟩, ⟨h3, h4⟩, h5, h6⟩ := h
  have H1 := Lib.hid (fun V => in_yes u 1048576 V h1 h2)
  have H2 := Lib.hid (fun V => in_yes w 100 V h3 h4)
  have H3 := Lib.hid (fun V => in_yes d 1024 V h5 h6)
  go_enter Try.func12, Try.ntmps12
  go_wp2_with (first | ((with_reducible refine (H1.out _).mono ?_); rintro e w' ⟨rfl, rfl⟩) | ((with_reducible refine (H2.out _).mono ?_); rintro e w' ⟨rfl, rfl⟩) | ((with_reducible refine (H3.out _).mono ?_); rintro e w' ⟨rfl, rfl⟩))
  go_ret
  exact ⟨rfl, (Below.refl _ _).alloc (Nat.le_refl _) _⟩
theorem fright_no (u w d : Int) (W : World) (h : ¬ OkZ u w d) : Calls Try.prog 12 #[.agg #[.int .i64 u, .int .i64 w, .int .i64 d]] W (Gave (.bool false) W) := by
  by_cases h1 : 1 ≤ u ∧ u ≤ 1048576
  · have H1 := Lib.hid (fun V => in_yes u 1048576 V h1.1 h1.2)
    by_cases h2 : 1 ≤ w ∧ w ≤ 100
    · have h3 : ¬ (1 ≤ d ∧ d ≤ 1024) := fun h3 => h ⟨h1, h2, h3⟩
      have H2 := Lib.hid (fun V => in_yes w 100 V h2.1 h2.2)
      have H3 := Lib.hid (fun V => in_no d 1024 V h3)
      clear h h1 h2 h3
      go_enter Try.func12, Try.ntmps12
      go_wp2_with (first | ((with_reducible refine (H1.out _).mono ?_); rintro e w' ⟨rfl, rfl⟩) | ((with_reducible refine (H2.out _).mono ?_); rintro e w' ⟨rfl, rfl⟩) | ((with_reducible refine (H3.out _).mono ?_); rintro e w' ⟨rfl, rfl⟩))
      go_ret
      exact ⟨rfl, (Below.refl _ _).alloc (Nat.le_refl _) _⟩
    · have H2 := Lib.hid (fun V => in_no w 100 V h2)
      clear h h1 h2
      go_enter Try.func12, Try.ntmps12
      go_wp2_with (first | ((with_reducible refine (H1.out _).mono ?_); rintro e w' ⟨rfl, rfl⟩) | ((with_reducible refine (H2.out _).mono ?_); rintro e w' ⟨rfl, rfl⟩))
      go_ret
      exact ⟨rfl, (Below.refl _ _).alloc (Nat.le_refl _) _⟩
  · have H1 := Lib.hid (fun V => in_no u 1048576 V h1)
    clear h h1
    go_enter Try.func12, Try.ntmps12
    go_wp2_with ((with_reducible refine (H1.out _).mono ?_); rintro e w' ⟨rfl, rfl⟩)
    go_ret
    exact ⟨rfl, (Below.refl _ _).alloc (Nat.le_refl _) _⟩

theorem fwhere_pure (U W D n : Nat) : n / (U * W * D) * W + n % (U * W * D) % (U * W) / U = objOf U W D n ∧ n % (U * W * D) / (U * W) * U + n % (U * W * D) % (U * W) % U = frOf U W D n := by
  unfold objOf frOf
  rw [Nat.div_div_eq_div_mul n U W, Nat.div_div_eq_div_mul n (U * W) D, Nat.mod_mul_right_mod n (U * W) D, Nat.mod_mul_right_mod n U W, Nat.mod_mul_right_div_self n U W, Nat.mod_mul_right_div_self n (U * W) D]
  exact ⟨rfl, rfl⟩
set_option maxRecDepth 100000 in
set_option maxHeartbeats 4000000 in
theorem fwhere_c (U W D n : Nat) (w : World) (h : Ok U W D) (hn : n ≤ 1099511627776) :
    Calls Try.prog 13 #[.agg #[.int .i64 U, .int .i64 W, .int .i64 D], .int .i64 n] w (Gave (.tuple #[.int .i64 (objOf U W D n), .int .i64 (frOf U W D n)]) w) := by
  obtain ⟨⟨h1, h2⟩, ⟨h3, h4⟩, h5, h6⟩ := h
  obtain ⟨pu1, pu2⟩ := fwhere_pure U W D n
  have k1 : U * W ≤ 1048576 * 100 := mul_le (by omega) (by omega)
  have k2 : U * W * D ≤ 1048576 * 100 * 1024 := mul_le k1 (by omega)
  have m0 : 0 < U * W := Nat.mul_pos (by omega) (by omega)
  have t0 : 0 < U * W * D := Nat.mul_pos m0 (by omega)
  have p1 := @muls U W
  have p2 := @muls (U * W) D
  have b1 : n / (U * W * D) ≤ n := Nat.div_le_self _ _
  have b2 : n % (U * W * D) < U * W * D := Nat.mod_lt _ t0
  have k3 : n / (U * W * D) * W ≤ 1099511627776 * 100 := mul_le (by omega) (by omega)
  have q1 := @divs n (U * W * D)
  have q2 := @tdivs n (U * W * D)
  have m1 := @mods n (U * W * D)
  have m2 := @tmods n (U * W * D)
  have p3 := @muls (n / (U * W * D)) W
  generalize ht : U * W * D = t at *
  generalize hm : U * W = m at *
  generalize hs : n / t = s at *
  generalize hA : n % t = A at *
  generalize hy : s * W = y at *
  have PM := Lib.hid hm
  have PU1 := Lib.hid pu1
  have PU2 := Lib.hid pu2
  clear ht hm hs hA hy pu1 pu2
  have n1 : ((t : Int) == 0) = false := by simp; omega
  have nz : ¬ t = 0 := by omega
  have wy : IntKind.i64.wrap (y : Int) = y := IntWalk.i64_in _ (by omega)
  have ws : IntKind.i64.wrap (s : Int) = s := IntWalk.i64_in _ (by omega)
  go_enter Try.func13, Try.ntmps13
  go_wp2
  go_quiet (fail)
  have HBX := Lib.hid (below_drewN ((Below.refl w.heap.size w).alloc (Nat.le_refl _) (.cells #[.int .i64 U, .int .i64 W, .int .i64 D] 23)) nq)
  have UM : U ≤ m := by
    have := PM.out; rw [← this]
    exact Nat.le_mul_of_pos_right _ (by omega)
  go_wp2
  go_loop [1, 8] (fun s1 s8 => ∃ a x fr : Nat, s1 = .int .i64 a ∧ s8 = .int .i64 fr ∧ fr = x * U ∧ a + x * m = A) (fun s1 _ => (intOf s1).toNat)
  case atStart => exact ⟨A, 0, 0, rfl, rfl, by omega, by omega⟩
  case round =>
    obtain ⟨a, x, fr, rfl, rfl, hfr, ha⟩ := hrel
    have hle : x * U ≤ x * m := Nat.mul_le_mul_left _ UM
    by_cases hlt : m * 512 ≤ a
    · have i1 : (m : Int) * 512 ≤ (a : Int) := by omega
      have X1 := Lib.hid (show fr + U * 512 = (x + 512) * U ∧ a - m * 512 + (x + 512) * m = A by rw [Nat.add_mul, Nat.add_mul]; omega)
      have hfb : fr ≤ A := by omega
      have hab : a ≤ A := by omega
      clear hfr ha hle
      go_wp2
      go_round
      case rel => exact ⟨a - m * 512, x + 512, fr + U * 512, by first | go_num | (congr 1; omega), by first | go_num | (congr 1; omega), X1.out.1, X1.out.2⟩
      case measure => simp [intOf]; omega
    · have i1 : ¬ (m : Int) * 512 ≤ (a : Int) := by omega
      have X1 := Lib.hid (show fr = x * U ∧ a + x * m = A from ⟨hfr, ha⟩)
      clear hfr ha hle hlt
      go_wp2
      go_loop [1, 8] (fun s1 s8 => ∃ a x fr : Nat, s1 = .int .i64 a ∧ s8 = .int .i64 fr ∧ fr = x * U ∧ a + x * m = A) (fun s1 _ => (intOf s1).toNat)
      case atStart => exact ⟨a, x, fr, rfl, rfl, X1.out.1, X1.out.2⟩
      case round =>
        clear X1 i1
        obtain ⟨a, x, fr, rfl, rfl, hfr, ha⟩ := hrel
        have hle : x * U ≤ x * m := Nat.mul_le_mul_left _ UM
        by_cases hlt : m ≤ a
        · have i1 : (m : Int) ≤ (a : Int) := by omega
          have X1 := Lib.hid (show fr + U = (x + 1) * U ∧ a - m + (x + 1) * m = A by rw [Nat.add_mul, Nat.add_mul]; omega)
          have hfb : fr ≤ A := by omega
          have hab : a ≤ A := by omega
          clear hfr ha hle
          go_wp2
          go_round
          case rel => exact ⟨a - m, x + 1, fr + U, by first | go_num | (congr 1; omega), by first | go_num | (congr 1; omega), X1.out.1, X1.out.2⟩
          case measure => simp [intOf]; omega
        · have i1 : ¬ (m : Int) ≤ (a : Int) := by omega
          have hq := qr (q := x) (r := a) (m := m) (by omega)
          rw [show x * m + a = A by omega] at hq
          have Q1 := Lib.hid hq
          have X1 := Lib.hid (show fr = x * U from hfr)
          have hfb : fr ≤ A := by omega
          clear hq hfr ha hle
          go_wp2
          go_loop [1, 7] (fun s1 s7 => ∃ r c : Nat, s1 = .int .i64 r ∧ s7 = .int .i64 ((y : Int) + (c : Int)) ∧ r + c * U = a) (fun s1 _ => (intOf s1).toNat)
          case atStart => exact ⟨a, 0, rfl, by simp, by omega⟩
          case round =>
            obtain ⟨r, c, rfl, rfl, hr⟩ := hrel
            have hc : c ≤ a := by
              have := Nat.le_mul_of_pos_right c h1
              omega
            by_cases hlt2 : U ≤ r
            · have i2 : (U : Int) ≤ (r : Int) := by omega
              have X2 := Lib.hid (show r - U + (c + 1) * U = a by rw [Nat.add_mul]; omega)
              have hra : r ≤ a := by omega
              clear hr
              go_wp2
              go_round
              case rel => exact ⟨r - U, c + 1, by first | go_num | (congr 1; omega), by first | go_num | (congr 1; omega), X2.out⟩
              case measure => simp [intOf]; omega
            · have i2 : ¬ (U : Int) ≤ (r : Int) := by omega
              have hq2 := qr (q := c) (r := r) (m := U) (by omega)
              rw [show c * U + r = a by omega] at hq2
              have hra : r ≤ a := by omega
              have F1 := Lib.hid (show objOf U W D n = y + c by rw [← PU1.out, Q1.out.2, hq2.1])
              have F2 := Lib.hid (show frOf U W D n = fr + r by rw [← PU2.out, Q1.out.1, Q1.out.2, hq2.2, X1.out])
              clear hr hq2
              go_wp2
              go_ret2
              exact ⟨by rw [F1.out, F2.out]; simp, HBX.out⟩
end Go.Proofs.Ytlcbchpijijilaa.Stripe
