/-
  The program's own functions on jumps: what is wrong with a number, the next bucket, the iterator's maker.
-/
import Derived.Test.YtjaacohnnplmdaaJpSpec
import Derived.Deep.DeepCutAuto
namespace Go.Proofs.Ytjaacohnnplmdaa.Jump
set_option linter.unusedVariables false
set_option linter.unusedSimpArgs false
open Go.RowKit Mem

set_option maxHeartbeats 1000000 in
theorem next_c (key : UInt64) (b : Nat) (hb : b < 1048576) (W : World) :
    Calls Try.prog 28 #[.int .u64 key.toNat, .int .i64 b] W fun e w => e = .returned (.int .i64 (nb key b)) ∧ W = w := by
  have hl := key.toNat_lt
  have E := Lib.hid (show nb key b = (b + 1) * 2147483648 / (key.toNat / 8589934592 + 1) from rfl)
  generalize hq : nb key b = q at *
  generalize key.toNat = a at *
  clear hq
  go_enter Try.func28, Try.ntmps28
  go_wp2
  have hw : ((b : Int) + 1) * 2147483648 / ((a : Int) / 8589934592 + 1) = (q : Int) := by
    have e := E.out
    have p1 : ((b : Int) + 1) * 2147483648 = (((b + 1) * 2147483648 : Nat) : Int) := by omega
    have p2 : (a : Int) / 8589934592 + 1 = ((a / 8589934592 + 1 : Nat) : Int) := by omega
    rw [p1, p2, e, Int.natCast_ediv]
  rw [hw]
  go_ret
  exact ⟨rfl, rfl⟩
set_option maxHeartbeats 1000000 in
theorem wrongNumber_c (many : Int) (W : World) :
    Calls Try.prog 13 #[.int .i64 many] W fun e w => e = .returned (.bool (decide (errJ many = 2))) ∧ w = W := by
  rcases errJ_vals many with h | h
  · obtain ⟨m, rfl, h1, h2⟩ := ok_nat h
    have d1 : decide ((m : Int) < 1) = false := decide_eq_false (by omega)
    have d2 : decide ((m : Int) > 1048576) = false := decide_eq_false (by omega)
    have d3 : decide ((1048576 : Int) < (m : Int)) = false := decide_eq_false (by omega)
    rw [show decide (errJ (m : Int) = 2) = false by rw [h]; rfl]
    clear h
    go_enter Try.func13, Try.ntmps13
    go_wp2
    go_ret
    exact ⟨rfl, rfl⟩
  · rw [show decide (errJ many = 2) = true by rw [h]; rfl]
    rcases errJ_two.1 h with h1 | h1
    case' inl => have d1 : decide (many < 1) = true := decide_eq_true h1
    case' inr =>
      have d1 : decide (many < 1) = false := decide_eq_false (by omega)
      have d2 : decide (many > 1048576) = true := decide_eq_true (by omega)
    all_goals
      clear h h1
      go_enter Try.func13, Try.ntmps13
      go_wp2
      go_ret
      exact ⟨rfl, rfl⟩
set_option maxHeartbeats 1000000 in
theorem visited_c (key : UInt64) (many : Int) (W : World) :
    Calls Try.prog 14 #[.int .u64 key.toNat, .int .i64 many] W fun e w => e = .returned (.func (.func 27) #[] #[.pointer (some ⟨W.heap.size, 0, none⟩), .pointer (some ⟨W.heap.size + 1, 0, none⟩)]) ∧
      (W.alloc (.cells #[.int .u64 key.toNat] 22)).alloc (.cells #[.int .i64 many] 3) = w := by
  generalize (key.toNat : Int) = a at *
  go_enter Try.func14, Try.ntmps14
  go_wp2
  go_ret
  exact ⟨rfl, rfl⟩
end Go.Proofs.Ytjaacohnnplmdaa.Jump
