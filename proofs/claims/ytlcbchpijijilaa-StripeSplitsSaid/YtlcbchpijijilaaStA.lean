/-
  Package stripe: between, Right, place, unitAt, unbroken.
-/
import Derived.Test.YtlcbchpijijilaaStPure
import Derived.Test.YtlcbchpijijilaaRow
import Derived.Deep.DeepCutAuto
import Derived.RegionTactic
namespace Go.Proofs.Ytlcbchpijijilaa.Stripe
set_option linter.unusedVariables false
open Go.RowKit Mem

/-- A layout that is valid. -/
def Ok (U W D : Nat) : Prop := (1 ≤ U ∧ U ≤ 1048576) ∧ (1 ≤ W ∧ W ≤ 100) ∧ 1 ≤ D ∧ D ≤ 1024
def OkZ (u w d : Int) : Prop := (1 ≤ u ∧ u ≤ 1048576) ∧ (1 ≤ w ∧ w ≤ 100) ∧ 1 ≤ d ∧ d ≤ 1024
/-- The answer v; nothing old turned. -/
def Gave (v : Value) (W : World) (e : Ending) (W' : World) : Prop := e = .returned v ∧ Below W.heap.size W W'
def BoolIs (b : Bool) (W : World) (e : Ending) (W' : World) : Prop := e = .returned (.bool b) ∧ W = W'

theorem between_yes (n a b : Int) (W : World) (h1 : a ≤ n) (h2 : n ≤ b) : Calls Try.prog 23 #[.int .i64 n, .int .i64 a, .int .i64 b] W (BoolIs true W) := by
  go_enter Try.func23, Try.ntmps23
  go_wp2
  go_ret
  exact ⟨rfl, rfl⟩
theorem between_no (n a b : Int) (W : World) (h : ¬ (a ≤ n ∧ n ≤ b)) : Calls Try.prog 23 #[.int .i64 n, .int .i64 a, .int .i64 b] W (BoolIs false W) := by
  by_cases h1 : a ≤ n
  · have h2 : ¬ n ≤ b := fun h2 => h ⟨h1, h2⟩
    clear h
    go_enter Try.func23, Try.ntmps23
    go_wp2
    go_ret
    exact ⟨rfl, rfl⟩
  · clear h
    go_enter Try.func23, Try.ntmps23
    go_wp2
    go_ret
    exact ⟨rfl, rfl⟩

theorem right_yes (u w d : Int) (W : World) (h : OkZ u w d) : Calls Try.prog 11 #[.agg #[.int .i64 u, .int .i64 w, .int .i64 d]] W (Gave (.bool true) W) := by
  obtain ⟨⟨h1, h2⟩, ⟨h3, h4⟩, h5, h6⟩ := h
  have H1 := Lib.hid (fun V => between_yes u 1 1048576 V h1 h2)
  have H2 := Lib.hid (fun V => between_yes w 1 100 V h3 h4)
  have H3 := Lib.hid (fun V => between_yes d 1 1024 V h5 h6)
  go_enter Try.func11, Try.ntmps11
  go_wp2_with (first | ((with_reducible refine (H1.out _).mono ?_); rintro e w' ⟨rfl, rfl⟩) | ((with_reducible refine (H2.out _).mono ?_); rintro e w' ⟨rfl, rfl⟩) | ((with_reducible refine (H3.out _).mono ?_); rintro e w' ⟨rfl, rfl⟩))
  go_ret
  exact ⟨rfl, (Below.refl _ _).alloc (Nat.le_refl _) _⟩
theorem right_no (u w d : Int) (W : World) (h : ¬ OkZ u w d) : Calls Try.prog 11 #[.agg #[.int .i64 u, .int .i64 w, .int .i64 d]] W (Gave (.bool false) W) := by
  by_cases h1 : 1 ≤ u ∧ u ≤ 1048576
  · have H1 := Lib.hid (fun V => between_yes u 1 1048576 V h1.1 h1.2)
    by_cases h2 : 1 ≤ w ∧ w ≤ 100
    · have h3 : ¬ (1 ≤ d ∧ d ≤ 1024) := fun h3 => h ⟨h1, h2, h3⟩
      have H2 := Lib.hid (fun V => between_yes w 1 100 V h2.1 h2.2)
      have H3 := Lib.hid (fun V => between_no d 1 1024 V h3)
      clear h h1 h2 h3
      go_enter Try.func11, Try.ntmps11
      go_wp2_with (first | ((with_reducible refine (H1.out _).mono ?_); rintro e w' ⟨rfl, rfl⟩) | ((with_reducible refine (H2.out _).mono ?_); rintro e w' ⟨rfl, rfl⟩) | ((with_reducible refine (H3.out _).mono ?_); rintro e w' ⟨rfl, rfl⟩))
      go_ret
      exact ⟨rfl, (Below.refl _ _).alloc (Nat.le_refl _) _⟩
    · have H2 := Lib.hid (fun V => between_no w 1 100 V h2)
      clear h h1 h2
      go_enter Try.func11, Try.ntmps11
      go_wp2_with (first | ((with_reducible refine (H1.out _).mono ?_); rintro e w' ⟨rfl, rfl⟩) | ((with_reducible refine (H2.out _).mono ?_); rintro e w' ⟨rfl, rfl⟩))
      go_ret
      exact ⟨rfl, (Below.refl _ _).alloc (Nat.le_refl _) _⟩
  · have H1 := Lib.hid (fun V => between_no u 1 1048576 V h1)
    clear h h1
    go_enter Try.func11, Try.ntmps11
    go_wp2_with ((with_reducible refine (H1.out _).mono ?_); rintro e w' ⟨rfl, rfl⟩)
    go_ret
    exact ⟨rfl, (Below.refl _ _).alloc (Nat.le_refl _) _⟩

theorem mul_le {a b x y : Nat} (h1 : a ≤ x) (h2 : b ≤ y) : a * b ≤ x * y := Nat.mul_le_mul h1 h2
theorem muls {a b : Nat} : (a : Int) * (b : Int) = ((a * b : Nat) : Int) := (Int.natCast_mul a b).symm
theorem divs {a b : Nat} : (a : Int) / (b : Int) = ((a / b : Nat) : Int) := (Int.natCast_ediv a b).symm
theorem tmods {a b : Nat} : Int.tmod (a : Int) (b : Int) = ((a % b : Nat) : Int) := by rw [Int.tmod_eq_emod_of_nonneg (by omega), Int.natCast_emod]
theorem tdivs {a b : Nat} : Int.tdiv (a : Int) (b : Int) = ((a / b : Nat) : Int) := by rw [Int.tdiv_eq_ediv_of_nonneg (by omega), Int.natCast_ediv]
theorem mods {a b : Nat} : (a : Int) % (b : Int) = ((a % b : Nat) : Int) := (Int.natCast_emod a b).symm

set_option maxHeartbeats 1000000 in
theorem place_c (U W D n : Nat) (w : World) (h : Ok U W D) (hn : n ≤ 1099511627776) :
    Calls Try.prog 24 #[.agg #[.int .i64 U, .int .i64 W, .int .i64 D], .int .i64 n] w (Gave (.tuple #[.int .i64 (objOf U W D n), .int .i64 (frOf U W D n)]) w) := by
  obtain ⟨⟨h1, h2⟩, ⟨h3, h4⟩, h5, h6⟩ := h
  have hEO := Lib.hid (show objOf U W D n = n / U / W / D * W + n / U % W from rfl)
  have hEF := Lib.hid (show frOf U W D n = n / U / W % D * U + n % U from rfl)
  have b1 : n / U ≤ n := Nat.div_le_self _ _
  have b2 : n / U / W ≤ n / U := Nat.div_le_self _ _
  have b3 : n / U / W / D ≤ n / U / W := Nat.div_le_self _ _
  have b4 : n / U % W < W := Nat.mod_lt _ (by omega)
  have b5 : n / U / W % D < D := Nat.mod_lt _ (by omega)
  have b6 : n % U < U := Nat.mod_lt _ (by omega)
  have q1 := @divs n U
  have m1 := @mods n U
  have q2 := @divs (n / U) W
  have m2 := @mods (n / U) W
  have q3 := @divs (n / U / W) D
  have m3 := @mods (n / U / W) D
  have t1 := @tmods n U
  have t2 := @tmods (n / U) W
  have t3 := @tmods (n / U / W) D
  generalize hu : n / U = u at *
  generalize hb : n % U = b at *
  generalize hr : u / W = r at *
  generalize hc : u % W = c at *
  generalize hs : r / D = s at *
  generalize hd : r % D = d at *
  have p1 := @muls s W
  have p2 := @muls d U
  have k1 : s * W ≤ 1099511627776 * 100 := mul_le (by omega) (by omega)
  have k2 : d * U ≤ 1024 * 1048576 := mul_le (by omega) (by omega)
  generalize hx : s * W = x at *
  generalize hy : d * U = y at *
  clear hu hb hr hc hs hd hx hy
  have n1 : ((U : Int) == 0) = false := by simp; omega
  have n2 : ((W : Int) == 0) = false := by simp; omega
  have n3 : ((D : Int) == 0) = false := by simp; omega
  go_enter Try.func24, Try.ntmps24
  go_wp2
  go_quiet (fail)
  go_wp2
  go_quiet (fail)
  go_wp2
  go_quiet (fail)
  go_wp2
  go_ret2
  refine ⟨?_, ?_⟩
  · rw [hEO.out, hEF.out]; simp
  · exact below_drewN (below_drewN (below_drewN ((Below.refl _ _).alloc (Nat.le_refl _) _) _) _) _

/-- The number in the file of the unit at depth d of object o. -/
def unOf (W D o d : Nat) : Nat := (o / W * D + d) * W + o % W
theorem unOf_le {W D o d : Nat} (h3 : 1 ≤ W) (h4 : W ≤ 100) (h6 : D ≤ 1024) (ho : o ≤ 1099511627776) (hd : d ≤ 1048576) : (o / W * D + d) * W ≤ 118747255799808000 ∧ o / W * D ≤ 1125899906842624 := by
  have b1 : o / W ≤ o := Nat.div_le_self _ _
  have k1 : o / W * D ≤ 1099511627776 * 1024 := mul_le (by omega) (by omega)
  have k2 : (o / W * D + d) * W ≤ (1099511627776 * 1024 + 1048576) * 100 := mul_le (by omega) (by omega)
  omega
set_option maxHeartbeats 1000000 in
theorem unitAt_c (U W D o d : Nat) (w : World) (h : Ok U W D) (ho : o ≤ 1099511627776) (hd : d ≤ 1048576) :
    Calls Try.prog 25 #[.agg #[.int .i64 U, .int .i64 W, .int .i64 D], .int .i64 o, .int .i64 d] w (Gave (.int .i64 (unOf W D o d)) w) := by
  obtain ⟨⟨h1, h2⟩, ⟨h3, h4⟩, h5, h6⟩ := h
  have hE := Lib.hid (show unOf W D o d = (o / W * D + d) * W + o % W from rfl)
  obtain ⟨k2, k1⟩ := unOf_le (d := d) h3 h4 h6 ho hd
  have b1 : o / W ≤ o := Nat.div_le_self _ _
  have b2 : o % W < W := Nat.mod_lt _ (by omega)
  have q1 := @divs o W
  have m1 := @mods o W
  have t1 := @tmods o W
  have p1 := @muls (o / W) D
  have p2 := @muls (o / W * D + d) W
  rw [Int.natCast_add] at p2
  generalize hy : (o / W * D + d) * W = y at *
  generalize hx : o / W * D = x at *
  generalize hu : o / W = u at *
  generalize hb : o % W = b at *
  clear hx hy hu hb
  have n2 : ((W : Int) == 0) = false := by simp; omega
  go_enter Try.func25, Try.ntmps25
  go_wp2
  go_quiet (fail)
  go_wp2
  go_ret
  refine ⟨?_, ?_⟩
  · rw [hE.out]; simp
  · exact below_drewN ((Below.refl _ _).alloc (Nat.le_refl _) _) _

theorem unbroken_c (U W D : Nat) (w : World) (h : Ok U W D) :
    Calls Try.prog 33 #[.agg #[.int .i64 U, .int .i64 W, .int .i64 D]] w (Gave (.int .i64 (runOf U W D)) w) := by
  obtain ⟨⟨h1, h2⟩, ⟨h3, h4⟩, h5, h6⟩ := h
  by_cases hW : W = 1
  · subst hW
    have hE := Lib.hid (show runOf U 1 D = U * D from rfl)
    have k1 : U * D ≤ 1048576 * 1024 := mul_le (by omega) (by omega)
    have p1 := @muls U D
    generalize hx : U * D = x at *
    clear hx
    go_enter Try.func33, Try.ntmps33
    go_wp2
    go_ret
    exact ⟨by rw [hE.out]; rfl, (Below.refl _ _).alloc (Nat.le_refl _) _⟩
  · have hE := Lib.hid (show runOf U W D = U by unfold runOf; rw [if_neg hW])
    have n1 : ((W : Int) == 1) = false := by simp; omega
    clear hW
    go_enter Try.func33, Try.ntmps33
    go_wp2
    go_ret
    exact ⟨by rw [hE.out]; rfl, (Below.refl _ _).alloc (Nat.le_refl _) _⟩
end Go.Proofs.Ytlcbchpijijilaa.Stripe
