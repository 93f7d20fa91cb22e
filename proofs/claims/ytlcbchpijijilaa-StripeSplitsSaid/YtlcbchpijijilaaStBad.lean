/-
  StripeSplits: the test of a range, a closure over the layout and the length.
-/
import Derived.Test.YtlcbchpijijilaaStFSplit
import Derived.Test.YtlcbchpijijilaaStD
import Derived.Test.YtlcbchpijijilaaStAlive
namespace Go.Proofs.Ytlcbchpijijilaa.stripeSplits
open Go.RowKit Mem Stripe
set_option linter.unusedVariables false

theorem bad_yes (U : Nat) (a l : Int) (p q : Nat) (W : World) (hU : 1 ≤ U ∧ U ≤ 1048576) (wl : l ≤ 9223372036854775807) (cl : W.cell? ⟨p, 0, none⟩ = some (.int .i64 l)) (cu : W.cell? ⟨q, 0, none⟩ = some (.int .i64 U)) (hb : ¬ RangeOk U a l) :
    Calls Try.prog 17 #[.int .i64 a, .pointer (some ⟨p, 0, none⟩), .pointer (some ⟨q, 0, none⟩)] W (BoolIs true W) := by
  unfold RangeOk at hb
  by_cases h1 : a < 0
  · clear hb
    go_enter Try.func17, Try.ntmps17
    go_wp2
    go_ret
    exact ⟨rfl, rfl⟩
  by_cases h2 : l < 0
  · clear hb
    go_enter Try.func17, Try.ntmps17
    go_wp2
    go_ret
    exact ⟨rfl, rfl⟩
  by_cases h3 : 1099511627776 < a
  · clear hb
    go_enter Try.func17, Try.ntmps17
    go_wp2
    go_ret
    exact ⟨rfl, rfl⟩
  by_cases h4 : 1099511627776 < l
  · clear hb
    go_enter Try.func17, Try.ntmps17
    go_wp2
    go_ret
    exact ⟨rfl, rfl⟩
  by_cases h5 : 1099511627776 < a + l
  · clear hb
    go_enter Try.func17, Try.ntmps17
    go_wp2
    go_ret
    exact ⟨rfl, rfl⟩
  · obtain ⟨m, rfl⟩ : ∃ m : Nat, l = m := ⟨l.toNat, by omega⟩
    have q1 := @divs m U
    have t1 := @tdivs m U
    have b1 : m / U ≤ m := Nat.div_le_self _ _
    have h6 : 400 < m / U := by rw [q1] at hb; omega
    generalize hq : m / U = r at *
    clear hb hq
    have h7 : (400 : Int) < (r : Int) := by omega
    have n1 : ((U : Int) == 0) = false := by simp; omega
    go_enter Try.func17, Try.ntmps17
    go_wp2
    go_ret
    exact ⟨rfl, rfl⟩
theorem bad_no (U : Nat) (a l : Int) (p q : Nat) (W : World) (hU : 1 ≤ U ∧ U ≤ 1048576) (cl : W.cell? ⟨p, 0, none⟩ = some (.int .i64 l)) (cu : W.cell? ⟨q, 0, none⟩ = some (.int .i64 U)) (hb : RangeOk U a l) :
    Calls Try.prog 17 #[.int .i64 a, .pointer (some ⟨p, 0, none⟩), .pointer (some ⟨q, 0, none⟩)] W (BoolIs false W) := by
  obtain ⟨h1, h2, h3, h4⟩ := hb
  obtain ⟨m, rfl⟩ : ∃ m : Nat, l = m := ⟨l.toNat, by omega⟩
  have q1 := @divs m U
  have t1 := @tdivs m U
  have b1 : m / U ≤ m := Nat.div_le_self _ _
  rw [q1] at h4
  generalize hq : m / U = r at *
  clear hq
  have h7 : ¬ (400 : Int) < (r : Int) := by omega
  have n1 : ((U : Int) == 0) = false := by simp; omega
  have e1 : decide (a < 0) = false := by rw [decide_eq_false_iff_not]; omega
  have e2 : decide ((m : Int) < 0) = false := by rw [decide_eq_false_iff_not]; omega
  have e3 : decide (1099511627776 < a) = false := by rw [decide_eq_false_iff_not]; omega
  have e4 : decide (1099511627776 < (m : Int)) = false := by rw [decide_eq_false_iff_not]; omega
  have e5 : decide (1099511627776 < a + (m : Int)) = false := by rw [decide_eq_false_iff_not]; omega
  have e6 : decide ((400 : Int) < (r : Int)) = false := by rw [decide_eq_false_iff_not]; omega
  go_enter Try.func17, Try.ntmps17
  go_wp2
  go_ret
  exact ⟨rfl, rfl⟩
end Go.Proofs.Ytlcbchpijijilaa.stripeSplits
