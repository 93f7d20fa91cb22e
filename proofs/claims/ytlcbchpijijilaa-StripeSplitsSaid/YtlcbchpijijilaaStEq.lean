/-
  slices.Equal of extents, and of numbers.
-/
import Derived.Test.YtlcbchpijijilaaStMem
import Derived.Test.YtlcbchpijijilaaStA
import Derived.Test.YtlcbchpijijilaaStInts
import Derived.Test.YtlcbchpijijilaaShelf
import Derived.Laws.StructEq
namespace Go.Proofs.Ytlcbchpijijilaa.Stripe
set_option linter.unusedVariables false
open Go.RowKit Mem

def eqEx (xs ys : List Ex) : Bool := decide (xs = ys)
theorem eq_take {α : Type} {xs ys : List α} {k : Nat} (h : xs.take k = ys.take k) {x : α} (hx : xs[k]? = some x) (hy : ys[k]? = some x) : xs.take (k + 1) = ys.take (k + 1) := by
  rw [List.take_add_one, List.take_add_one, h, hx, hy]
theorem eqEx_len {xs ys : List Ex} (h : xs.length ≠ ys.length) : eqEx xs ys = false := decide_eq_false (fun e => h (by rw [e]))
theorem eqEx_at {xs ys : List Ex} {k : Nat} {x y : Ex} (hx : xs[k]? = some x) (hy : ys[k]? = some y) (h : x ≠ y) : eqEx xs ys = false := decide_eq_false (fun e => h (by subst e; rw [hx] at hy; exact Option.some.inj hy))
theorem eqEx_all {xs ys : List Ex} {n : Nat} (h1 : xs.length = n) (h2 : ys.length = n) (h : xs.take n = ys.take n) : eqEx xs ys = true := decide_eq_true (by rw [List.take_of_length_le (by omega), List.take_of_length_le (by omega)] at h; exact h)

theorem neq_ex (a b c a' b' c' : Int) (w : World) : (binOp .neq 43 (.agg #[.int .i64 a, .int .i64 b, .int .i64 c]) (.agg #[.int .i64 a', .int .i64 b', .int .i64 c'])).run Try.prog w = .ok (.bool (!(a == a' && b == b' && c == c'))) w := by
  have h0 : Try.prog.underlying 43 = some (.struct (Try.prog.fieldsOf 43)) := by kernel_rfl
  have h1 : Try.prog.stoodInHeld 43 = false := by kernel_rfl
  have h2 : Try.prog.fieldsOf 43 = #[⟨ "Object", 3, 0, false, "", "", 0⟩, ⟨ "From", 3, 1, false, "", "", 8⟩, ⟨ "Long", 3, 2, false, "", "", 16⟩] := by kernel_rfl
  have hi := Try.underlying3
  rw [run_neq_struct, run_equalIn_agg _ _ _ _ _ h0 h1, h2]
  simp [Op.eqFields, go_sem, hi]
  cases h3 : a == a' <;> cases h4 : b == b' <;> cases h5 : c == c' <;> simp_all
theorem guard_ex (op : BinOp) (x y : Operand) (xs ys : Array Value) (w : World) : (eqGuard op 43 x y (.agg xs) (.agg ys)).run Try.prog w = .ok () w := run_eqGuard_agg w op _ x y xs ys (by kernel_rfl)
set_option maxHeartbeats 2000000 in
theorem equalEx_c (A B : Option Addr) (xs ys : List Ex) (n m ca cb : Nat) (W : World) (hn : xs.length = n) (hm : ys.length = m) (hbig : n ≤ 9223372036854775807) (hx : ERds W A xs) (hy : ERds W B ys) :
    Calls Try.prog 18 #[.slice A n ca, .slice B m cb] W (Gave (.bool (eqEx xs ys)) W) := by
  by_cases e : n = m
  · subst e
    have HX := Lib.hid hx
    have HY := Lib.hid hy
    have HN := Lib.hid hn
    have HM := Lib.hid hm
    clear hx hy hn hm
    go_enter Try.func18, Try.ntmps18
    go_wp2
    go_loopw [13] (fun i wr => ∃ k : Nat, k ≤ n ∧ i = .int .i64 k ∧ Drawn W wr ∧ xs.take k = ys.take k) (fun i _ => n - (intOf i).toNat)
    case atStart => exact ⟨0, by omega, rfl, Drawn.refl _, rfl⟩
    case round =>
      obtain ⟨k, hk, rfl, hD, hT⟩ := hrel
      have HD := Lib.hid hD
      have HT := Lib.hid hT
      have hb := hD.below W.heap.size
      have HB := Lib.hid hb
      clear hD hT
      by_cases hlt : k < n
      · have kx : k < xs.length := by rw [HN.out]; exact hlt
        have ky : k < ys.length := by rw [HM.out]; exact hlt
        obtain ⟨b1, o1, rfl, _, x0, x1, x2⟩ := (HX.out.below hb).ext kx
        obtain ⟨b2, o2, rfl, _, y0, y1, y2⟩ := (HY.out.below hb).ext ky
        have EX := Lib.hid (show xs[k]? = some xs[k] from List.getElem?_eq_getElem kx)
        have EY := Lib.hid (show ys[k]? = some ys[k] from List.getElem?_eq_getElem ky)
        generalize hu : xs[k] = u at *
        generalize hv : ys[k] = v at *
        obtain ⟨u0, u1, u2⟩ := u
        obtain ⟨v0, v1, v2⟩ := v
        have i1 : (k : Int) < (n : Int) := by omega
        clear hu hv hb kx ky
        have ne := fun w => neq_ex u0 u1 u2 v0 v1 v2 w
        have gd := fun op x y w => guard_ex op x y #[.int .i64 u0, .int .i64 u1, .int .i64 u2] #[.int .i64 v0, .int .i64 v1, .int .i64 v2] w
        by_cases e : (u0, u1, u2) = (v0, v1, v2)
        · have eb : ((u0 : Int) == v0 && (u1 : Int) == v1 && (u2 : Int) == v2) = true := by
            injection e with e1 e2; injection e2 with e2 e3; subst e1 e2 e3; simp
          have HE := Lib.hid e
          rw [eb] at ne
          clear e eb
          go_wp2
          go_quiet (fail)
          go_wp2
          go_roundw
          case rel => exact ⟨k + 1, by omega, by go_num, HD.out.more _, eq_take HT.out EX.out (by rw [HE.out]; exact EY.out)⟩
          case measure => simp [intOf]; omega
        · have eb : ((u0 : Int) == v0 && (u1 : Int) == v1 && (u2 : Int) == v2) = false := by
            cases h : ((u0 : Int) == v0 && (u1 : Int) == v1 && (u2 : Int) == v2) with
            | false => rfl
            | true =>
              simp only [Bool.and_eq_true, beq_iff_eq] at h
              exact absurd (by rw [show u0 = v0 by omega, show u1 = v1 by omega, show u2 = v2 by omega]) e
          have HE := Lib.hid (eqEx_at EX.out EY.out e)
          rw [eb] at ne
          clear e eb
          go_wp2
          go_quiet (fail)
          go_wp2
          go_ret
          exact ⟨by rw [HE.out]; rfl, below_drewN HB.out _⟩
      · obtain rfl : k = n := by omega
        have HE := Lib.hid (eqEx_all HN.out HM.out HT.out)
        clear hb
        go_wp2
        go_ret
        exact ⟨by rw [HE.out]; rfl, HB.out⟩
  · have n1 : ((n : Int) != (m : Int)) = true := by simp; omega
    have E := Lib.hid (eqEx_len (xs := xs) (ys := ys) (by omega))
    clear hx hy hn hm e
    go_enter Try.func18, Try.ntmps18
    go_wp2
    go_ret
    exact ⟨by rw [E.out]; rfl, Below.refl _ _⟩
end Go.Proofs.Ytlcbchpijijilaa.Stripe
