/-
  Package logs: slices.Equal of entries; entries compared.
-/
import Derived.Test.YtmnhhfhdaagmhaaLgMem
import Derived.Deep.Cut
namespace Go.Proofs.Ytmnhhfhdaagmhaa.Lg
set_option linter.unusedVariables false
set_option linter.unusedSimpArgs false
open Go.RowKit Mem Gt
open Jump (Gave equalZ_c)

def eqEn (xs ys : List En) : Bool := decide (xs = ys)
theorem eq_take {α : Type} {xs ys : List α} {k : Nat} (h : xs.take k = ys.take k) {x : α} (hx : xs[k]? = some x) (hy : ys[k]? = some x) : xs.take (k + 1) = ys.take (k + 1) := by
  rw [List.take_add_one, List.take_add_one, h, hx, hy]
theorem eqEn_len {xs ys : List En} (h : xs.length ≠ ys.length) : eqEn xs ys = false := decide_eq_false (fun e => h (by rw [e]))
theorem eqEn_at {xs ys : List En} {k : Nat} {x y : En} (hx : xs[k]? = some x) (hy : ys[k]? = some y) (h : x ≠ y) : eqEn xs ys = false := decide_eq_false (fun e => h (by subst e; rw [hx] at hy; exact Option.some.inj hy))
theorem eqEn_all {xs ys : List En} {n : Nat} (h1 : xs.length = n) (h2 : ys.length = n) (h : xs.take n = ys.take n) : eqEn xs ys = true := decide_eq_true (by rw [List.take_of_length_le (by omega), List.take_of_length_le (by omega)] at h; exact h)
theorem neq_en (a b c a' b' c' : Int) (w : World) : (binOp .neq 32 (.agg #[.int .i64 a, .int .i64 b, .int .i64 c]) (.agg #[.int .i64 a', .int .i64 b', .int .i64 c'])).run Try.prog w = .ok (.bool (!(a == a' && b == b' && c == c'))) w := by
  have h0 : Try.prog.underlying 32 = some (.struct (Try.prog.fieldsOf 32)) := by kernel_rfl
  have h1 : Try.prog.stoodInHeld 32 = false := by kernel_rfl
  have h2 : Try.prog.fieldsOf 32 = #[⟨ "Epoch", 3, 0, false, "", "", 0⟩, ⟨ "N", 3, 1, false, "", "", 8⟩, ⟨ "Key", 3, 2, false, "", "", 16⟩] := by kernel_rfl
  have hi := Try.underlying3
  rw [run_neq_struct, run_equalIn_agg _ _ _ _ _ h0 h1, h2]
  simp [Op.eqFields, go_sem, hi]
  cases h3 : a == a' <;> cases h4 : b == b' <;> cases h5 : c == c' <;> simp_all
theorem eql_en (a b c a' b' c' : Int) (w : World) : (binOp .eql 32 (.agg #[.int .i64 a, .int .i64 b, .int .i64 c]) (.agg #[.int .i64 a', .int .i64 b', .int .i64 c'])).run Try.prog w = .ok (.bool (a == a' && b == b' && c == c')) w := by
  have h0 : Try.prog.underlying 32 = some (.struct (Try.prog.fieldsOf 32)) := by kernel_rfl
  have h1 : Try.prog.stoodInHeld 32 = false := by kernel_rfl
  have h2 : Try.prog.fieldsOf 32 = #[⟨ "Epoch", 3, 0, false, "", "", 0⟩, ⟨ "N", 3, 1, false, "", "", 8⟩, ⟨ "Key", 3, 2, false, "", "", 16⟩] := by kernel_rfl
  have hi := Try.underlying3
  rw [run_eql_struct, run_equalIn_agg _ _ _ _ _ h0 h1, h2]
  simp [Op.eqFields, go_sem, hi]
  cases h3 : a == a' <;> cases h4 : b == b' <;> cases h5 : c == c' <;> simp_all
theorem guard_en (op : BinOp) (x y : Operand) (xs ys : Array Value) (w : World) : (eqGuard op 32 x y (.agg xs) (.agg ys)).run Try.prog w = .ok () w := run_eqGuard_agg w op _ x y xs ys (by kernel_rfl)
set_option maxHeartbeats 2000000 in
theorem equalEn_d (A B : Option Addr) (xs ys : List En) (n m ca cb : Nat) (W : World) (hn : xs.length = n) (hm : ys.length = m) (hbig : n ≤ 9223372036854775807) (hx : Reads W A (flat enE xs)) (hy : Reads W B (flat enE ys)) :
    Calls Try.prog 18 #[.slice A n ca, .slice B m cb] W (fun e W' => e = .returned (.bool (eqEn xs ys)) ∧ ∃ q, W' = W.drewN q) := by
  by_cases e : n = m
  · subst e
    have HX := Lib.hid hx
    have HY := Lib.hid hy
    have HN := Lib.hid hn
    have HM := Lib.hid hm
    clear hx hy hn hm
    go_enter Try.func18, Try.ntmps18
    go_wp2
    go_loopw [13] (fun i wr => ∃ k : Nat, k ≤ n ∧ i = .int .i64 k ∧ Drawn W wr ∧ xs.take k = ys.take k) (fun i _ => n - (intOf i).toNat)
    case atStart => exact ⟨0, by omega, rfl, Drawn.refl _, rfl⟩
    case round =>
      obtain ⟨k, hk, rfl, hD, hT⟩ := hrel
      have HD := Lib.hid hD
      have HT := Lib.hid hT
      have hb := hD.below W.heap.size
      have HB := Lib.hid hb
      clear hD hT
      by_cases hlt : k < n
      · have kx : k < xs.length := by rw [HN.out]; exact hlt
        have ky : k < ys.length := by rw [HM.out]; exact hlt
        obtain ⟨⟨u0, u1, u2⟩, ex⟩ : ∃ u, xs[k]? = some u := ⟨_, List.getElem?_eq_getElem kx⟩
        obtain ⟨⟨v0, v1, v2⟩, ey⟩ : ∃ u, ys[k]? = some u := ⟨_, List.getElem?_eq_getElem ky⟩
        obtain ⟨b1, o1, rfl, _, x0, x1, x2⟩ := en_at (HX.out.below hb) ex
        obtain ⟨b2, o2, rfl, _, y0, y1, y2⟩ := en_at (HY.out.below hb) ey
        have EX := Lib.hid ex
        have EY := Lib.hid ey
        have i1 : (k : Int) < (n : Int) := by omega
        clear ex ey hb kx ky
        have ne := fun w => neq_en u0 u1 u2 v0 v1 v2 w
        have gd := fun op x y w => guard_en op x y #[.int .i64 u0, .int .i64 u1, .int .i64 u2] #[.int .i64 v0, .int .i64 v1, .int .i64 v2] w
        by_cases e : (u0, u1, u2) = (v0, v1, v2)
        · have eb : ((u0 : Int) == v0 && (u1 : Int) == v1 && (u2 : Int) == v2) = true := by
            injection e with e1 e2; injection e2 with e2 e3; subst e1 e2 e3; simp
          have HE := Lib.hid e
          rw [eb] at ne
          clear e eb
          go_wp2
          go_quiet (fail)
          go_wp2
          go_roundw
          case rel => exact ⟨k + 1, by omega, by go_num, HD.out.more _, eq_take HT.out EX.out (by rw [HE.out]; exact EY.out)⟩
          case measure => simp [intOf]; omega
        · have eb : ((u0 : Int) == v0 && (u1 : Int) == v1 && (u2 : Int) == v2) = false := by
            cases h : ((u0 : Int) == v0 && (u1 : Int) == v1 && (u2 : Int) == v2) with
            | false => rfl
            | true =>
              simp only [Bool.and_eq_true, beq_iff_eq] at h
              exact absurd (by rw [h.1.1, h.1.2, h.2]) e
          have HE := Lib.hid (eqEn_at EX.out EY.out e)
          rw [eb] at ne
          clear e eb
          go_wp2
          go_quiet (fail)
          go_wp2
          go_ret
          exact ⟨by rw [HE.out]; rfl, HD.out.more _⟩
      · obtain rfl : k = n := by omega
        have HE := Lib.hid (eqEn_all HN.out HM.out HT.out)
        clear hb
        go_wp2
        go_ret
        exact ⟨by rw [HE.out]; rfl, HD.out⟩
  · have n1 : ((n : Int) != (m : Int)) = true := by simp; omega
    have E := Lib.hid (eqEn_len (xs := xs) (ys := ys) (by omega))
    clear hx hy hn hm e
    go_enter Try.func18, Try.ntmps18
    go_wp2
    go_ret
    exact ⟨by rw [E.out]; rfl, Drawn.refl _⟩

theorem equalEn_c (A B : Option Addr) (xs ys : List En) (n m ca cb : Nat) (W : World) (hn : xs.length = n) (hm : ys.length = m) (hbig : n ≤ 9223372036854775807) (hx : Reads W A (flat enE xs)) (hy : Reads W B (flat enE ys)) :
    Calls Try.prog 18 #[.slice A n ca, .slice B m cb] W (Gave (.bool (eqEn xs ys)) W) :=
  (equalEn_d A B xs ys n m ca cb W hn hm hbig hx hy).mono (by rintro e w ⟨rfl, q, rfl⟩; exact ⟨rfl, below_drewN (Below.refl _ _) q⟩)
/-- A callee that only draws, in a region that is walked once. -/
theorem quiet_of_drawn {P : Program} {f : FuncId} {args : Array Value} {w : World} {n : Nat} {v : Value} (h : Calls P f args (w.drewN n) fun e w' => e = .returned v ∧ ∃ q, w' = (w.drewN n).drewN q) :
    Calls P f args (w.drewN n) fun e w'' => e = .returned v ∧ ∃ m, w'' = w.drewN m :=
  h.mono fun _ _ ⟨he, q, hq⟩ => ⟨he, n + q, by rw [hq, World.drewN_drewN]⟩
end Go.Proofs.Ytmnhhfhdaagmhaa.Lg
