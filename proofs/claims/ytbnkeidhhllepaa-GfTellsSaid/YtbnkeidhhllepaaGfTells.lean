/-
  GfTells: for all bytes a and b, every integer n and all byte slices x and y, the law GfTells answers true (Mul, Pow, Inv, Div, Log and Dot return what the document says), and its arguments read afterwards as before. No condition.
-/
import Derived.Test.YtbnkeidhhllepaaGfDot
import Derived.Test.YtbnkeidhhllepaaGfRef
import Derived.Test.YtbnkeidhhllepaaLaw
namespace Go.Proofs.Ytbnkeidhhllepaa.gfTells
open Go.ChangeShapes Go.WideShapes Go.ChangeAt Go.RowKit
open Gf Mem
set_option linter.unusedVariables false
attribute [local go_sem] add8

theorem lt_63 {a : Int} (w : (Lit.int .i64 a).wf = true) : a < 9223372036854775808 := by
  simp [Lit.wf, IntKind.min, IntKind.max, IntKind.bits, IntKind.signed] at w
  omega
theorem nat_of {a : Int} (h : ¬ a < 0) (hi : a < 9223372036854775808) : ∃ n : Nat, a = n ∧ n < 9223372036854775808 := ⟨a.toNat, by omega, by omega⟩
theorem log_at0 (W : World) : Calls Try.prog 11 #[.int .u8 0] W fun e W' => e = .returned (.tuple #[.int .i64 0, .int .i64 3]) ∧ W = W' := log_0 W
theorem pow2_log (a : UInt8) (ha : ¬ a = 0) (W : World) :
    Calls Try.prog 15 #[.int .u8 2, .int .i64 (log a)] W fun e W' => e = .returned (.int .u8 a.toNat) ∧ W = W' := by
  have h := bPow_c 2 (log a) (by have := (log_spec ha).1; omega) W
  rwa [(log_spec ha).2] at h

set_option maxRecDepth 100000 in
set_option maxHeartbeats 4000000 in
theorem w_neg_ne_zero (b : UInt8) (n : Int) (hn : n < 0) (A B : Option Addr) (l m ca cb : Nat) (h : l ≠ m) (hl : l ≤ maxLen) (hm : m ≤ maxLen) (W : World) :
    Calls Try.prog 3 #[.int .u8 0, .int .u8 b.toNat, .int .i64 n, .slice A l ca, .slice B m cb] W (Law.Yes W) := by
  unfold maxLen at hl hm
  have l1 : ((l : Int) == (m : Int)) = false := by rw [beq_eq_false_iff_ne]; omega
  have H := Lib.hid h
  go_enter Try.func3, Try.ntmps3
  go_wp2_with fail
  refine (pow_neg (0 : UInt8) n hn _).mono ?_
  rintro e w' ⟨rfl, rfl⟩
  go_wp2_with fail
  refine (inv_0 _).mono ?_
  rintro e w' ⟨rfl, rfl⟩
  go_wp2_with fail
  refine (div_0 b _).mono ?_
  rintro e w' ⟨rfl, rfl⟩
  go_wp2_with fail
  refine (log_at0 _).mono ?_
  rintro e w' ⟨rfl, rfl⟩
  go_wp2_with fail
  refine (dot_bad A B l m ca cb H.out (by unfold maxLen; omega) (by unfold maxLen; omega) _).mono ?_
  rintro e w' ⟨rfl, rfl⟩
  go_wp2_with fail
  refine (mul_c (0 : UInt8) b _).mono ?_
  rintro e w' ⟨rfl, rfl⟩
  go_wp2_with fail
  refine (bMul_c (0 : UInt8) b _).mono ?_
  rintro e w' ⟨rfl, rfl⟩
  go_wp2_with fail
  go_ret
  exact ⟨rfl, Below.refl _ _⟩

set_option maxRecDepth 100000 in
set_option maxHeartbeats 4000000 in
theorem w_neg_ne_unit (a b : UInt8) (ha : ¬ a = 0) (n : Int) (hn : n < 0) (A B : Option Addr) (l m ca cb : Nat) (h : l ≠ m) (hl : l ≤ maxLen) (hm : m ≤ maxLen) (W : World) :
    Calls Try.prog 3 #[.int .u8 a.toNat, .int .u8 b.toNat, .int .i64 n, .slice A l ca, .slice B m cb] W (Law.Yes W) := by
  unfold maxLen at hl hm
  have z1 := isnt0 ha
  have z2 := pos8 ha
  have z3 : ((log a : Nat) : Int) ≤ 254 := by have := (log_spec ha).1; omega
  have HA := Lib.hid ha
  clear ha
  have l1 : ((l : Int) == (m : Int)) = false := by rw [beq_eq_false_iff_ne]; omega
  have H := Lib.hid h
  go_enter Try.func3, Try.ntmps3
  go_wp2_with fail
  refine (pow_neg a n hn _).mono ?_
  rintro e w' ⟨rfl, rfl⟩
  go_wp2_with fail
  refine (inv_c a z2 _).mono ?_
  rintro e w' ⟨rfl, rfl⟩
  go_wp2_with fail
  refine (div_c b a z2 _).mono ?_
  rintro e w' ⟨rfl, rfl⟩
  go_wp2_with fail
  refine (log_c a HA.out _).mono ?_
  rintro e w' ⟨rfl, rfl⟩
  go_wp2_with fail
  refine (dot_bad A B l m ca cb H.out (by unfold maxLen; omega) (by unfold maxLen; omega) _).mono ?_
  rintro e w' ⟨rfl, rfl⟩
  go_wp2_with fail
  refine (mul_c a b _).mono ?_
  rintro e w' ⟨rfl, rfl⟩
  go_wp2_with fail
  refine (bMul_c a b _).mono ?_
  rintro e w' ⟨rfl, rfl⟩
  go_wp2_with fail
  refine (bInv_c a _).mono ?_
  rintro e w' ⟨rfl, rfl⟩
  go_wp2_with fail
  refine (bInv_c a _).mono ?_
  rintro e w' ⟨rfl, rfl⟩
  go_wp2_with fail
  refine (bMul_c b (inv a) _).mono ?_
  rintro e w' ⟨rfl, rfl⟩
  go_wp2_with fail
  refine (pow2_log a HA.out _).mono ?_
  rintro e w' ⟨rfl, rfl⟩
  go_wp2_with fail
  go_ret
  exact ⟨rfl, Below.refl _ _⟩

set_option maxRecDepth 100000 in
set_option maxHeartbeats 4000000 in
theorem w_neg_eq_zero (b : UInt8) (n : Int) (hn : n < 0) (A B : Option Addr) (xs ys : List UInt8) (ca cb : Nat) (h : xs.length = ys.length) (hl : xs.length ≤ maxLen) (W : World) (hx : Reads W A (xs.map byt)) (hy : Reads W B (ys.map byt)) :
    Calls Try.prog 3 #[.int .u8 0, .int .u8 b.toNat, .int .i64 n, .slice A xs.length ca, .slice B xs.length cb] W (Law.Yes W) := by
  unfold maxLen at hl
  have HX := Lib.hid hx
  have HY := Lib.hid hy
  have H := Lib.hid h
  have hdot := dot_c A B xs ys ca cb h (by unfold maxLen; omega) W hx hy
  have HDOT := Lib.hid hdot
  clear hx hy h hdot
  generalize hN : xs.length = l at *
  have HN := Lib.hid hN
  clear hN
  go_enter Try.func3, Try.ntmps3
  go_wp2_with fail
  refine (pow_neg (0 : UInt8) n hn _).mono ?_
  rintro e w' ⟨rfl, rfl⟩
  go_wp2_with fail
  refine (inv_0 _).mono ?_
  rintro e w' ⟨rfl, rfl⟩
  go_wp2_with fail
  refine (div_0 b _).mono ?_
  rintro e w' ⟨rfl, rfl⟩
  go_wp2_with fail
  refine (log_at0 _).mono ?_
  rintro e w' ⟨rfl, rfl⟩
  go_wp2_with fail
  refine HDOT.out.mono ?_
  rintro e W1 ⟨rfl, hd1⟩
  have HD1 := Lib.hid hd1
  clear hd1
  go_wp2_with fail
  refine (mul_c (0 : UInt8) b _).mono ?_
  rintro e w' ⟨rfl, rfl⟩
  go_wp2_with fail
  refine (bMul_c (0 : UInt8) b _).mono ?_
  rintro e w' ⟨rfl, rfl⟩
  go_wp2_with fail
  go_loopw [21, 88] (fun s i wr => ∃ k : Nat, k ≤ l ∧ s = .int .u8 (dotTo xs ys k).toNat ∧ i = .int .i64 k ∧ Drawn W wr) (fun _ i _ => l - (intOf i).toNat)
  case atStart => exact ⟨0, by omega, rfl, rfl, HD1.out⟩
  case round =>
    obtain ⟨k, hk, rfl, rfl, hd⟩ := hrel
    have HD := Lib.hid hd
    by_cases hlt : k < l
    · obtain ⟨b, o, x, rfl, ex, cx⟩ := (HX.out.drawn hd).bytes (k := k) (by rw [HN.out]; exact hlt)
      obtain ⟨b2, o2, y, rfl, ey, cy⟩ := (HY.out.drawn hd).bytes (k := k) (by rw [← H.out]; exact hlt)
      have ED := Lib.hid (dotTo_succ ex ey)
      clear ex ey hd
      have i1 : (k : Int) < (l : Int) := by omega
      go_wp2
      go_quiet ((go_at_call 14; exact quiet_left (bMul_c _ _ _)))
      go_wp2
      go_roundw
      case rel => exact ⟨k + 1, by omega, by rw [ED.out], by go_num, HD.out.more _⟩
      case measure => simp [intOf]; omega
    · obtain rfl : k = l := by omega
      clear hd
      have e1 : (((dot xs ys).toNat : Int) == ((dotTo xs ys k).toNat : Int)) = true := by
        rw [← HN.out, dotTo_all xs ys (by rw [HN.out]; exact H.out)]; exact beq_self_eq_true _
      go_wp2_with fail
      go_ret
      exact ⟨rfl, HD.out.below _⟩

set_option maxRecDepth 100000 in
set_option maxHeartbeats 4000000 in
theorem w_neg_eq_unit (a b : UInt8) (ha : ¬ a = 0) (n : Int) (hn : n < 0) (A B : Option Addr) (xs ys : List UInt8) (ca cb : Nat) (h : xs.length = ys.length) (hl : xs.length ≤ maxLen) (W : World) (hx : Reads W A (xs.map byt)) (hy : Reads W B (ys.map byt)) :
    Calls Try.prog 3 #[.int .u8 a.toNat, .int .u8 b.toNat, .int .i64 n, .slice A xs.length ca, .slice B xs.length cb] W (Law.Yes W) := by
  unfold maxLen at hl
  have z1 := isnt0 ha
  have z2 := pos8 ha
  have z3 : ((log a : Nat) : Int) ≤ 254 := by have := (log_spec ha).1; omega
  have HA := Lib.hid ha
  clear ha
  have HX := Lib.hid hx
  have HY := Lib.hid hy
  have H := Lib.hid h
  have hdot := dot_c A B xs ys ca cb h (by unfold maxLen; omega) W hx hy
  have HDOT := Lib.hid hdot
  clear hx hy h hdot
  generalize hN : xs.length = l at *
  have HN := Lib.hid hN
  clear hN
  go_enter Try.func3, Try.ntmps3
  go_wp2_with fail
  refine (pow_neg a n hn _).mono ?_
  rintro e w' ⟨rfl, rfl⟩
  go_wp2_with fail
  refine (inv_c a z2 _).mono ?_
  rintro e w' ⟨rfl, rfl⟩
  go_wp2_with fail
  refine (div_c b a z2 _).mono ?_
  rintro e w' ⟨rfl, rfl⟩
  go_wp2_with fail
  refine (log_c a HA.out _).mono ?_
  rintro e w' ⟨rfl, rfl⟩
  go_wp2_with fail
  refine HDOT.out.mono ?_
  rintro e W1 ⟨rfl, hd1⟩
  have HD1 := Lib.hid hd1
  clear hd1
  go_wp2_with fail
  refine (mul_c a b _).mono ?_
  rintro e w' ⟨rfl, rfl⟩
  go_wp2_with fail
  refine (bMul_c a b _).mono ?_
  rintro e w' ⟨rfl, rfl⟩
  go_wp2_with fail
  go_loopw [21, 88] (fun s i wr => ∃ k : Nat, k ≤ l ∧ s = .int .u8 (dotTo xs ys k).toNat ∧ i = .int .i64 k ∧ Drawn W wr) (fun _ i _ => l - (intOf i).toNat)
  case atStart => exact ⟨0, by omega, rfl, rfl, HD1.out⟩
  case round =>
    obtain ⟨k, hk, rfl, rfl, hd⟩ := hrel
    have HD := Lib.hid hd
    by_cases hlt : k < l
    · obtain ⟨b, o, x, rfl, ex, cx⟩ := (HX.out.drawn hd).bytes (k := k) (by rw [HN.out]; exact hlt)
      obtain ⟨b2, o2, y, rfl, ey, cy⟩ := (HY.out.drawn hd).bytes (k := k) (by rw [← H.out]; exact hlt)
      have ED := Lib.hid (dotTo_succ ex ey)
      clear ex ey hd
      have i1 : (k : Int) < (l : Int) := by omega
      go_wp2
      go_quiet ((go_at_call 14; exact quiet_left (bMul_c _ _ _)))
      go_wp2
      go_roundw
      case rel => exact ⟨k + 1, by omega, by rw [ED.out], by go_num, HD.out.more _⟩
      case measure => simp [intOf]; omega
    · obtain rfl : k = l := by omega
      clear hd
      have e1 : (((dot xs ys).toNat : Int) == ((dotTo xs ys k).toNat : Int)) = true := by
        rw [← HN.out, dotTo_all xs ys (by rw [HN.out]; exact H.out)]; exact beq_self_eq_true _
      go_wp2_with fail
      refine (bInv_c a _).mono ?_
      rintro e w' ⟨rfl, rfl⟩
      go_wp2_with fail
      refine (bInv_c a _).mono ?_
      rintro e w' ⟨rfl, rfl⟩
      go_wp2_with fail
      refine (bMul_c b (inv a) _).mono ?_
      rintro e w' ⟨rfl, rfl⟩
      go_wp2_with fail
      refine (pow2_log a HA.out _).mono ?_
      rintro e w' ⟨rfl, rfl⟩
      go_wp2_with fail
      go_ret
      exact ⟨rfl, HD.out.below _⟩

set_option maxRecDepth 100000 in
set_option maxHeartbeats 4000000 in
theorem w_pos_ne_zero (b : UInt8) (n : Nat) (hn : n < 9223372036854775808) (A B : Option Addr) (l m ca cb : Nat) (h : l ≠ m) (hl : l ≤ maxLen) (hm : m ≤ maxLen) (W : World) :
    Calls Try.prog 3 #[.int .u8 0, .int .u8 b.toNat, .int .i64 n, .slice A l ca, .slice B m cb] W (Law.Yes W) := by
  unfold maxLen at hl hm
  have n0 : (0 : Int) ≤ (n : Int) := by omega
  have l1 : ((l : Int) == (m : Int)) = false := by rw [beq_eq_false_iff_ne]; omega
  have H := Lib.hid h
  go_enter Try.func3, Try.ntmps3
  go_wp2_with fail
  refine (pow_c (0 : UInt8) n hn _).mono ?_
  rintro e w' ⟨rfl, rfl⟩
  go_wp2_with fail
  refine (inv_0 _).mono ?_
  rintro e w' ⟨rfl, rfl⟩
  go_wp2_with fail
  refine (div_0 b _).mono ?_
  rintro e w' ⟨rfl, rfl⟩
  go_wp2_with fail
  refine (log_at0 _).mono ?_
  rintro e w' ⟨rfl, rfl⟩
  go_wp2_with fail
  refine (dot_bad A B l m ca cb H.out (by unfold maxLen; omega) (by unfold maxLen; omega) _).mono ?_
  rintro e w' ⟨rfl, rfl⟩
  go_wp2_with fail
  refine (mul_c (0 : UInt8) b _).mono ?_
  rintro e w' ⟨rfl, rfl⟩
  go_wp2_with fail
  refine (bMul_c (0 : UInt8) b _).mono ?_
  rintro e w' ⟨rfl, rfl⟩
  go_wp2_with fail
  refine (bPow_c (0 : UInt8) n hn _).mono ?_
  rintro e w' ⟨rfl, rfl⟩
  go_wp2_with fail
  go_ret
  exact ⟨rfl, Below.refl _ _⟩

set_option maxRecDepth 100000 in
set_option maxHeartbeats 4000000 in
theorem w_pos_ne_unit (a b : UInt8) (ha : ¬ a = 0) (n : Nat) (hn : n < 9223372036854775808) (A B : Option Addr) (l m ca cb : Nat) (h : l ≠ m) (hl : l ≤ maxLen) (hm : m ≤ maxLen) (W : World) :
    Calls Try.prog 3 #[.int .u8 a.toNat, .int .u8 b.toNat, .int .i64 n, .slice A l ca, .slice B m cb] W (Law.Yes W) := by
  unfold maxLen at hl hm
  have z1 := isnt0 ha
  have z2 := pos8 ha
  have z3 : ((log a : Nat) : Int) ≤ 254 := by have := (log_spec ha).1; omega
  have HA := Lib.hid ha
  clear ha
  have n0 : (0 : Int) ≤ (n : Int) := by omega
  have l1 : ((l : Int) == (m : Int)) = false := by rw [beq_eq_false_iff_ne]; omega
  have H := Lib.hid h
  go_enter Try.func3, Try.ntmps3
  go_wp2_with fail
  refine (pow_c a n hn _).mono ?_
  rintro e w' ⟨rfl, rfl⟩
  go_wp2_with fail
  refine (inv_c a z2 _).mono ?_
  rintro e w' ⟨rfl, rfl⟩
  go_wp2_with fail
  refine (div_c b a z2 _).mono ?_
  rintro e w' ⟨rfl, rfl⟩
  go_wp2_with fail
  refine (log_c a HA.out _).mono ?_
  rintro e w' ⟨rfl, rfl⟩
  go_wp2_with fail
  refine (dot_bad A B l m ca cb H.out (by unfold maxLen; omega) (by unfold maxLen; omega) _).mono ?_
  rintro e w' ⟨rfl, rfl⟩
  go_wp2_with fail
  refine (mul_c a b _).mono ?_
  rintro e w' ⟨rfl, rfl⟩
  go_wp2_with fail
  refine (bMul_c a b _).mono ?_
  rintro e w' ⟨rfl, rfl⟩
  go_wp2_with fail
  refine (bPow_c a n hn _).mono ?_
  rintro e w' ⟨rfl, rfl⟩
  go_wp2_with fail
  refine (bInv_c a _).mono ?_
  rintro e w' ⟨rfl, rfl⟩
  go_wp2_with fail
  refine (bInv_c a _).mono ?_
  rintro e w' ⟨rfl, rfl⟩
  go_wp2_with fail
  refine (bMul_c b (inv a) _).mono ?_
  rintro e w' ⟨rfl, rfl⟩
  go_wp2_with fail
  refine (pow2_log a HA.out _).mono ?_
  rintro e w' ⟨rfl, rfl⟩
  go_wp2_with fail
  go_ret
  exact ⟨rfl, Below.refl _ _⟩

set_option maxRecDepth 100000 in
set_option maxHeartbeats 4000000 in
theorem w_pos_eq_zero (b : UInt8) (n : Nat) (hn : n < 9223372036854775808) (A B : Option Addr) (xs ys : List UInt8) (ca cb : Nat) (h : xs.length = ys.length) (hl : xs.length ≤ maxLen) (W : World) (hx : Reads W A (xs.map byt)) (hy : Reads W B (ys.map byt)) :
    Calls Try.prog 3 #[.int .u8 0, .int .u8 b.toNat, .int .i64 n, .slice A xs.length ca, .slice B xs.length cb] W (Law.Yes W) := by
  unfold maxLen at hl
  have n0 : (0 : Int) ≤ (n : Int) := by omega
  have HX := Lib.hid hx
  have HY := Lib.hid hy
  have H := Lib.hid h
  have hdot := dot_c A B xs ys ca cb h (by unfold maxLen; omega) W hx hy
  have HDOT := Lib.hid hdot
  clear hx hy h hdot
  generalize hN : xs.length = l at *
  have HN := Lib.hid hN
  clear hN
  go_enter Try.func3, Try.ntmps3
  go_wp2_with fail
  refine (pow_c (0 : UInt8) n hn _).mono ?_
  rintro e w' ⟨rfl, rfl⟩
  go_wp2_with fail
  refine (inv_0 _).mono ?_
  rintro e w' ⟨rfl, rfl⟩
  go_wp2_with fail
  refine (div_0 b _).mono ?_
  rintro e w' ⟨rfl, rfl⟩
  go_wp2_with fail
  refine (log_at0 _).mono ?_
  rintro e w' ⟨rfl, rfl⟩
  go_wp2_with fail
  refine HDOT.out.mono ?_
  rintro e W1 ⟨rfl, hd1⟩
  have HD1 := Lib.hid hd1
  clear hd1
  go_wp2_with fail
  refine (mul_c (0 : UInt8) b _).mono ?_
  rintro e w' ⟨rfl, rfl⟩
  go_wp2_with fail
  refine (bMul_c (0 : UInt8) b _).mono ?_
  rintro e w' ⟨rfl, rfl⟩
  go_wp2_with fail
  refine (bPow_c (0 : UInt8) n hn _).mono ?_
  rintro e w' ⟨rfl, rfl⟩
  go_wp2_with fail
  go_loopw [21, 88] (fun s i wr => ∃ k : Nat, k ≤ l ∧ s = .int .u8 (dotTo xs ys k).toNat ∧ i = .int .i64 k ∧ Drawn W wr) (fun _ i _ => l - (intOf i).toNat)
  case atStart => exact ⟨0, by omega, rfl, rfl, HD1.out⟩
  case round =>
    obtain ⟨k, hk, rfl, rfl, hd⟩ := hrel
    have HD := Lib.hid hd
    by_cases hlt : k < l
    · obtain ⟨b, o, x, rfl, ex, cx⟩ := (HX.out.drawn hd).bytes (k := k) (by rw [HN.out]; exact hlt)
      obtain ⟨b2, o2, y, rfl, ey, cy⟩ := (HY.out.drawn hd).bytes (k := k) (by rw [← H.out]; exact hlt)
      have ED := Lib.hid (dotTo_succ ex ey)
      clear ex ey hd
      have i1 : (k : Int) < (l : Int) := by omega
      go_wp2
      go_quiet ((go_at_call 14; exact quiet_left (bMul_c _ _ _)))
      go_wp2
      go_roundw
      case rel => exact ⟨k + 1, by omega, by rw [ED.out], by go_num, HD.out.more _⟩
      case measure => simp [intOf]; omega
    · obtain rfl : k = l := by omega
      clear hd
      have e1 : (((dot xs ys).toNat : Int) == ((dotTo xs ys k).toNat : Int)) = true := by
        rw [← HN.out, dotTo_all xs ys (by rw [HN.out]; exact H.out)]; exact beq_self_eq_true _
      go_wp2_with fail
      go_ret
      exact ⟨rfl, HD.out.below _⟩

set_option maxRecDepth 100000 in
set_option maxHeartbeats 4000000 in
theorem w_pos_eq_unit (a b : UInt8) (ha : ¬ a = 0) (n : Nat) (hn : n < 9223372036854775808) (A B : Option Addr) (xs ys : List UInt8) (ca cb : Nat) (h : xs.length = ys.length) (hl : xs.length ≤ maxLen) (W : World) (hx : Reads W A (xs.map byt)) (hy : Reads W B (ys.map byt)) :
    Calls Try.prog 3 #[.int .u8 a.toNat, .int .u8 b.toNat, .int .i64 n, .slice A xs.length ca, .slice B xs.length cb] W (Law.Yes W) := by
  unfold maxLen at hl
  have z1 := isnt0 ha
  have z2 := pos8 ha
  have z3 : ((log a : Nat) : Int) ≤ 254 := by have := (log_spec ha).1; omega
  have HA := Lib.hid ha
  clear ha
  have n0 : (0 : Int) ≤ (n : Int) := by omega
  have HX := Lib.hid hx
  have HY := Lib.hid hy
  have H := Lib.hid h
  have hdot := dot_c A B xs ys ca cb h (by unfold maxLen; omega) W hx hy
  have HDOT := Lib.hid hdot
  clear hx hy h hdot
  generalize hN : xs.length = l at *
  have HN := Lib.hid hN
  clear hN
  go_enter Try.func3, Try.ntmps3
  go_wp2_with fail
  refine (pow_c a n hn _).mono ?_
  rintro e w' ⟨rfl, rfl⟩
  go_wp2_with fail
  refine (inv_c a z2 _).mono ?_
  rintro e w' ⟨rfl, rfl⟩
  go_wp2_with fail
  refine (div_c b a z2 _).mono ?_
  rintro e w' ⟨rfl, rfl⟩
  go_wp2_with fail
  refine (log_c a HA.out _).mono ?_
  rintro e w' ⟨rfl, rfl⟩
  go_wp2_with fail
  refine HDOT.out.mono ?_
  rintro e W1 ⟨rfl, hd1⟩
  have HD1 := Lib.hid hd1
  clear hd1
  go_wp2_with fail
  refine (mul_c a b _).mono ?_
  rintro e w' ⟨rfl, rfl⟩
  go_wp2_with fail
  refine (bMul_c a b _).mono ?_
  rintro e w' ⟨rfl, rfl⟩
  go_wp2_with fail
  refine (bPow_c a n hn _).mono ?_
  rintro e w' ⟨rfl, rfl⟩
  go_wp2_with fail
  go_loopw [21, 88] (fun s i wr => ∃ k : Nat, k ≤ l ∧ s = .int .u8 (dotTo xs ys k).toNat ∧ i = .int .i64 k ∧ Drawn W wr) (fun _ i _ => l - (intOf i).toNat)
  case atStart => exact ⟨0, by omega, rfl, rfl, HD1.out⟩
  case round =>
    obtain ⟨k, hk, rfl, rfl, hd⟩ := hrel
    have HD := Lib.hid hd
    by_cases hlt : k < l
    · obtain ⟨b, o, x, rfl, ex, cx⟩ := (HX.out.drawn hd).bytes (k := k) (by rw [HN.out]; exact hlt)
      obtain ⟨b2, o2, y, rfl, ey, cy⟩ := (HY.out.drawn hd).bytes (k := k) (by rw [← H.out]; exact hlt)
      have ED := Lib.hid (dotTo_succ ex ey)
      clear ex ey hd
      have i1 : (k : Int) < (l : Int) := by omega
      go_wp2
      go_quiet ((go_at_call 14; exact quiet_left (bMul_c _ _ _)))
      go_wp2
      go_roundw
      case rel => exact ⟨k + 1, by omega, by rw [ED.out], by go_num, HD.out.more _⟩
      case measure => simp [intOf]; omega
    · obtain rfl : k = l := by omega
      clear hd
      have e1 : (((dot xs ys).toNat : Int) == ((dotTo xs ys k).toNat : Int)) = true := by
        rw [← HN.out, dotTo_all xs ys (by rw [HN.out]; exact H.out)]; exact beq_self_eq_true _
      go_wp2_with fail
      refine (bInv_c a _).mono ?_
      rintro e w' ⟨rfl, rfl⟩
      go_wp2_with fail
      refine (bInv_c a _).mono ?_
      rintro e w' ⟨rfl, rfl⟩
      go_wp2_with fail
      refine (bMul_c b (inv a) _).mono ?_
      rintro e w' ⟨rfl, rfl⟩
      go_wp2_with fail
      refine (pow2_log a HA.out _).mono ?_
      rintro e w' ⟨rfl, rfl⟩
      go_wp2_with fail
      go_ret
      exact ⟨rfl, HD.out.below _⟩

theorem walk (a0 : Int) (w0 : (Lit.int .u8 a0).wf = true) (a1 : Int) (w1 : (Lit.int .u8 a1).wf = true) (a2 : Int) (w2 : (Lit.int .i64 a2).wf = true) {H : Type} {enc : TypeId × Value → H} {base : Nat} {W : World} {v3 v4 : Value} {d3 d4 : DataW H} {p3 p4 : List MemPlace}
    (o3 : Value.okWide Try.prog W .any base 22 v3) (h3 : DataW.Trod enc Try.prog W 0 (fun _ => true) true 22 v3 d3 p3) (o4 : Value.okWide Try.prog W .any base 22 v4) (h4 : DataW.Trod enc Try.prog W 0 (fun _ => true) true 22 v4 d4 p4) :
    Calls Try.prog 3 #[.int .u8 a0, .int .u8 a1, .int .i64 a2, v3, v4] W (Law.Yes W) := by
  obtain ⟨a, rfl⟩ := Words.of_wf8 w0
  obtain ⟨b, rfl⟩ := Words.of_wf8 w1
  have hi := lt_63 w2
  obtain ⟨A, ca, xs, rfl, hl, hx⟩ := open_bytes Try.underlying22 Try.underlying5 (by kernel_rfl) o3 h3
  obtain ⟨B, cb, ys, rfl, hm, hy⟩ := open_bytes Try.underlying22 Try.underlying5 (by kernel_rfl) o4 h4
  by_cases hz : a = 0
  · subst hz
    by_cases hn : a2 < 0
    · by_cases h : xs.length = ys.length
      · rw [← h]; exact w_neg_eq_zero b a2 hn A B xs ys ca cb h hl W hx hy
      · exact w_neg_ne_zero b a2 hn A B _ _ ca cb h hl hm W
    · obtain ⟨n, rfl, hn'⟩ := nat_of hn hi
      by_cases h : xs.length = ys.length
      · rw [← h]; exact w_pos_eq_zero b n hn' A B xs ys ca cb h hl W hx hy
      · exact w_pos_ne_zero b n hn' A B _ _ ca cb h hl hm W
  · by_cases hn : a2 < 0
    · by_cases h : xs.length = ys.length
      · rw [← h]; exact w_neg_eq_unit a b hz a2 hn A B xs ys ca cb h hl W hx hy
      · exact w_neg_ne_unit a b hz a2 hn A B _ _ ca cb h hl hm W
    · obtain ⟨n, rfl, hn'⟩ := nat_of hn hi
      by_cases h : xs.length = ys.length
      · rw [← h]; exact w_pos_eq_unit a b hz n hn' A B xs ys ca cb h hl W hx hy
      · exact w_pos_ne_unit a b hz n hn' A B _ _ ca cb h hl hm W
theorem own : ownKnob Try.prog.godebug = none := by kernel_rfl
theorem laid : laidOutB Try.prog = true := by kernel_rfl
theorem pars : ∀ t ∈ Try.f3.params.toList, Try.prog.readableRec t = true ∧ t < Try.prog.types.size := by
  have h : Try.f3.params.toList.all (fun t => Try.prog.readableRec t && decide (t < Try.prog.types.size)) = true := by kernel_rfl
  intro t ht; have := List.all_eq_true.1 h t ht; simpa using this
theorem calls (H : Type) (enc : TypeId × Value → H) (W : World) (base : Nat) (args : Array Value) (ds : List (DataW H)) (before : List MemPlace)
    (hval : ∀ (j : Nat) t v, Try.f3.params[j]? = some t → args[j]? = some v → Value.okWide Try.prog W .any base t v)
    (hA : DataW.TrodAll enc Try.prog W 0 (fun _ => true) true Try.f3.params.toList args.toList ds before) :
    Calls Try.prog 3 args W (Law.Yes W) := by
  rw [Try.params3] at hA hval
  obtain ⟨v0, vs0, d0, ds0, p0, q0, hargs, rfl, rfl, h0, r0⟩ := trodAll_cons hA
  obtain ⟨v1, vs1, d1, ds1, p1, q1, rfl, rfl, rfl, h1, r1⟩ := trodAll_cons r0
  obtain ⟨v2, vs2, d2, ds2, p2, q2, rfl, rfl, rfl, h2, r2⟩ := trodAll_cons r1
  obtain ⟨v3, vs3, d3, ds3, p3, q3, rfl, rfl, rfl, h3, r3⟩ := trodAll_cons r2
  obtain ⟨v4, vs4, d4, ds4, p4, q4, rfl, rfl, rfl, h4, r4⟩ := trodAll_cons r3
  obtain ⟨rfl, rfl, rfl⟩ := trodAll_nil r4
  obtain rfl : args = #[v0, v1, v2, v3, v4] := by cases args; simp_all
  obtain ⟨a0, rfl, rfl, rfl, w0⟩ := open_int Try.underlying5 (hval 0 5 v0 rfl rfl) h0
  obtain ⟨a1, rfl, rfl, rfl, w1⟩ := open_int Try.underlying5 (hval 1 5 v1 rfl rfl) h1
  obtain ⟨a2, rfl, rfl, rfl, w2⟩ := open_int Try.underlying3 (hval 2 3 v2 rfl rfl) h2
  exact walk (W := W) a0 w0 a1 w1 a2 w2 (hval 3 22 v3 rfl rfl) h3 (hval 4 22 v4 rfl rfl) h4
theorem fnOf (H : Type) : ∀ ds : List (DataW H), ds.length = Try.f3.params.toList.length → Rows.gfTellsSpec.fn H ds = { results := [.lit (.bool true)], args := ds } := by
  intro ds h
  have h : ds.length = 5 := h
  obtain _ | ⟨x0, ds⟩ := ds
  · simp at h
  obtain _ | ⟨x1, ds⟩ := ds
  · simp at h
  obtain _ | ⟨x2, ds⟩ := ds
  · simp at h
  obtain _ | ⟨x3, ds⟩ := ds
  · simp at h
  obtain _ | ⟨x4, ds⟩ := ds
  · simp at h
  obtain rfl : ds = [] := List.eq_nil_of_length_eq_zero (by simpa using h)
  rfl
set_option maxRecDepth 100000 in
theorem lifted (os : Os) (started : os.Started) (H : Type) (enc : TypeId × Value → H) :
    ReturnsInHanded {} Try.checked os 3 .any (Rows.gfTellsSpec.pre6 enc Try.prog Try.f3 Rows.gfTellsRow.domain false) (Rows.gfTellsSpec.post enc Try.prog Try.f3 false true false false) := by
  refine returnsInHanded_of_change (C := Try.checked) own started (by kernel_rfl) Try.func3
    (ChangeSpec.witness6 (enc := enc) (C := Try.checked) false ⟨#[], #[.int .u8 0, .int .u8 0, .int .i64 0, .slice none 0 0, .slice none 0 0], []⟩ 8 (by kernel_rfl) (by kernel_rfl) (by kernel_rfl) (by kernel_rfl)) ?_
  intro W base args ds gs before hval hW _ _
  obtain ⟨p, q, hA, hV, rfl, hfz, hnd⟩ := id hW
  obtain ⟨rfl, rfl⟩ := trodVars_none hV
  exact Law.ending (C := Try.checked) (s := Rows.gfTellsSpec) laid pars rfl Try.underlying4 rfl (fnOf H) hW (calls H enc W base args ds p hval hA)
theorem over : Rows.gfTellsRow.holds Try.pinned (OpenSpec.ofChange Rows.gfTellsSpec) :=
  OpenClaim.holds_of_wide 3 Try.f3 rfl rfl rfl rfl rfl rfl rfl ⟨rfl, rfl, rfl, rfl, rfl⟩ rfl rfl rfl rfl rfl (by kernel_rfl) Try.func3 (by kernel_rfl)
    (of_decide_eq_true (by kernel_rfl)) (by unfold Func.isWrapper; first | (rw [if_pos (by decide +kernel)]; kernel_rfl) | (rw [if_neg (by decide +kernel)]; exact ⟨rfl, rfl⟩))
    (fun os started H enc _ => lifted os started H enc)
theorem proved : Rows.GfTellsSaid := over
end Go.Proofs.Ytbnkeidhhllepaa.gfTells
