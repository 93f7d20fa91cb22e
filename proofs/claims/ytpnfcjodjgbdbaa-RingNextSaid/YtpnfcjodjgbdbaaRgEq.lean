/-
  slices.Equal of tokens, and of numbers; the check of a few known values that the statements about package ring begin with: it answers true.
-/
import Derived.Test.YtpnfcjodjgbdbaaRgG
import Derived.Test.YtpnfcjodjgbdbaaLaw
import Derived.Laws.StructEq
namespace Go.Proofs.Ytpnfcjodjgbdbaa.Ring
set_option linter.unusedVariables false
set_option linter.unusedSimpArgs false
open Go.RowKit Mem

def eqTk (xs ys : List Tk) : Bool := decide (xs = ys)
theorem eq_take {α : Type} {xs ys : List α} {k : Nat} (h : xs.take k = ys.take k) {x : α} (hx : xs[k]? = some x) (hy : ys[k]? = some x) : xs.take (k + 1) = ys.take (k + 1) := by
  rw [List.take_add_one, List.take_add_one, h, hx, hy]
theorem eqTk_len {xs ys : List Tk} (h : xs.length ≠ ys.length) : eqTk xs ys = false := decide_eq_false (fun e => h (by rw [e]))
theorem eqTk_at {xs ys : List Tk} {k : Nat} {x y : Tk} (hx : xs[k]? = some x) (hy : ys[k]? = some y) (h : x ≠ y) : eqTk xs ys = false := decide_eq_false (fun e => h (by subst e; rw [hx] at hy; exact Option.some.inj hy))
theorem eqTk_all {xs ys : List Tk} {n : Nat} (h1 : xs.length = n) (h2 : ys.length = n) (h : xs.take n = ys.take n) : eqTk xs ys = true := decide_eq_true (by rw [List.take_of_length_le (by omega), List.take_of_length_le (by omega)] at h; exact h)
theorem eqTk_self (xs : List Tk) : eqTk xs xs = true := decide_eq_true rfl
theorem neq_tk (a b a' b' : Int) (w : World) : (binOp .neq 31 (.agg #[.int .u64 a, .int .i64 b]) (.agg #[.int .u64 a', .int .i64 b'])).run Try.prog w = .ok (.bool (!(a == a' && b == b'))) w := by
  have h0 : Try.prog.underlying 31 = some (.struct (Try.prog.fieldsOf 31)) := by kernel_rfl
  have h1 : Try.prog.stoodInHeld 31 = false := by kernel_rfl
  have h2 : Try.prog.fieldsOf 31 = #[⟨ "At", 29, 0, false, "", "", 0⟩, ⟨ "Id", 3, 1, false, "", "", 8⟩] := by kernel_rfl
  have hi := Try.underlying3
  have hu := Try.underlying29
  rw [run_neq_struct, run_equalIn_agg _ _ _ _ _ h0 h1, h2]
  simp [Op.eqFields, go_sem, hi, hu]
  cases h3 : a == a' <;> cases h4 : b == b' <;> simp_all
theorem guard_tk (op : BinOp) (x y : Operand) (xs ys : Array Value) (w : World) : (eqGuard op 31 x y (.agg xs) (.agg ys)).run Try.prog w = .ok () w := run_eqGuard_agg w op _ x y xs ys (by kernel_rfl)
set_option maxHeartbeats 2000000 in
theorem equalTk_c (A B : Option Addr) (xs ys : List Tk) (n m ca cb : Nat) (W : World) (hn : xs.length = n) (hm : ys.length = m) (hbig : n ≤ 9223372036854775807) (hx : TRds W A xs) (hy : TRds W B ys) :
    Calls Try.prog 12 #[.slice A n ca, .slice B m cb] W (Gave (.bool (eqTk xs ys)) W) := by
  by_cases e : n = m
  · subst e
    have HX := Lib.hid hx
    have HY := Lib.hid hy
    have HN := Lib.hid hn
    have HM := Lib.hid hm
    clear hx hy hn hm
    go_enter Try.func12, Try.ntmps12
    go_wp2
    go_loopw [13] (fun i wr => ∃ k : Nat, k ≤ n ∧ i = .int .i64 k ∧ Drawn W wr ∧ xs.take k = ys.take k) (fun i _ => n - (intOf i).toNat)
    case atStart => exact ⟨0, by omega, rfl, Drawn.refl _, rfl⟩
    case round =>
      obtain ⟨k, hk, rfl, hD, hT⟩ := hrel
      have HD := Lib.hid hD
      have HT := Lib.hid hT
      have hb := hD.below W.heap.size
      have HB := Lib.hid hb
      clear hD hT
      by_cases hlt : k < n
      · have kx : k < xs.length := by rw [HN.out]; exact hlt
        have ky : k < ys.length := by rw [HM.out]; exact hlt
        obtain ⟨b1, o1, rfl, _, x0, x1⟩ := (HX.out.below hb).tk kx
        obtain ⟨b2, o2, rfl, _, y0, y1⟩ := (HY.out.below hb).tk ky
        have EX := Lib.hid (show xs[k]? = some xs[k] from List.getElem?_eq_getElem kx)
        have EY := Lib.hid (show ys[k]? = some ys[k] from List.getElem?_eq_getElem ky)
        generalize hu : xs[k] = u at *
        generalize hv : ys[k] = v at *
        obtain ⟨u0, u1⟩ := u
        obtain ⟨v0, v1⟩ := v
        have i1 : (k : Int) < (n : Int) := by omega
        clear hu hv hb kx ky
        have ne := fun w => neq_tk u0.toNat u1 v0.toNat v1 w
        have gd := fun op x y w => guard_tk op x y #[.int .u64 u0.toNat, .int .i64 u1] #[.int .u64 v0.toNat, .int .i64 v1] w
        by_cases e : (u0, u1) = (v0, v1)
        · have eb : ((u0.toNat : Int) == v0.toNat && (u1 : Int) == v1) = true := by
            injection e with e1 e2; subst e1 e2; simp
          have HE := Lib.hid e
          rw [eb] at ne
          clear e eb
          go_wp2
          go_quiet (fail)
          go_wp2
          go_roundw
          case rel => exact ⟨k + 1, by omega, by go_num, HD.out.more _, eq_take HT.out EX.out (by rw [HE.out]; exact EY.out)⟩
          case measure => simp [intOf]; omega
        · have eb : ((u0.toNat : Int) == v0.toNat && (u1 : Int) == v1) = false := by
            cases h : ((u0.toNat : Int) == v0.toNat && (u1 : Int) == v1) with
            | false => rfl
            | true =>
              simp only [Bool.and_eq_true, beq_iff_eq] at h
              exact absurd (Prod.ext (UInt64.toNat_inj.1 (by have := h.1; simp only; omega)) h.2) e
          have HE := Lib.hid (eqTk_at EX.out EY.out e)
          rw [eb] at ne
          clear e eb
          go_wp2
          go_quiet (fail)
          go_wp2
          go_ret
          exact ⟨by rw [HE.out]; rfl, below_drewN HB.out _⟩
      · obtain rfl : k = n := by omega
        have HE := Lib.hid (eqTk_all HN.out HM.out HT.out)
        clear hb
        go_wp2
        go_ret
        exact ⟨by rw [HE.out]; rfl, HB.out⟩
  · have n1 : ((n : Int) != (m : Int)) = true := by simp; omega
    have E := Lib.hid (eqTk_len (xs := xs) (ys := ys) (by omega))
    clear hx hy hn hm e
    go_enter Try.func12, Try.ntmps12
    go_wp2
    go_ret
    exact ⟨by rw [E.out]; rfl, Below.refl _ _⟩

theorem equalZ_c (A B : Option Addr) (xs ys : List Int) (n m ca cb : Nat) (W : World) (hn : xs.length = n) (hm : ys.length = m) (hb1 : n ≤ 9223372036854775807) (hb2 : m ≤ 9223372036854775807) (hx : Reads W A (xs.map (Value.int .i64))) (hy : Reads W B (ys.map (Value.int .i64))) :
    Calls Try.prog 18 #[.slice A n ca, .slice B m cb] W (Gave (.bool (decide (xs = ys))) W) := by
  by_cases h : n = m
  · subst h
    by_cases h0 : n = 0
    · subst h0
      obtain rfl := List.eq_nil_of_length_eq_zero hn
      obtain rfl := List.eq_nil_of_length_eq_zero hm
      refine (Try.slices_Equal_int_empty A B ca 0 cb W hb2).mono ?_
      rintro e w ⟨rfl, rfl⟩
      exact ⟨rfl, Below.refl _ _⟩
    · obtain ⟨b1, o1, rfl, _, c1⟩ := reads_cells hx (by omega)
      obtain ⟨b2, o2, rfl, _, c2⟩ := reads_cells hy (by omega)
      refine (Try.slices_Equal_int b1 o1 n ca b2 o2 n cb xs ys W (by omega) (by omega) hb1 hb2 c1 c2).mono ?_
      rintro e w ⟨rfl, q, rfl⟩
      refine ⟨?_, below_drewN (Below.refl _ _) _⟩
      rw [List.take_of_length_le (by omega), List.take_of_length_le (by omega)]
      congr 2
      rw [Bool.eq_iff_iff, beq_iff_eq, decide_eq_true_iff]
  · refine (Try.slices_Equal_int_lens A B n ca m cb W h).mono ?_
    rintro e w ⟨rfl, rfl⟩
    exact ⟨by rw [decide_eq_false (fun e => h (by rw [← hn, ← hm, e]))], Below.refl _ _⟩
end Go.Proofs.Ytpnfcjodjgbdbaa.Ring
