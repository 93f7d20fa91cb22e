/-
  Package lease: slices.Equal of answers; slices.Clone of operations; what the laws try first.
-/
import Derived.Test.YteneglbafngejaaLeMem
import Derived.Test.YteneglbafngejaaGApp
import Derived.Test.YteneglbafngejaaShLo
import Derived.Lib.SliceRun
namespace Go.Proofs.Yteneglbafngejaa.Le
set_option linter.unusedVariables false
set_option linter.unusedSimpArgs false
open Go.RowKit Mem Gt

/-- Some draws later. -/
def Drawn (W V : World) : Prop := ∃ q, V = W.drewN q
theorem Drawn.refl (W : World) : Drawn W W := ⟨0, rfl⟩
theorem Drawn.more {W V : World} (h : Drawn W V) (n : Nat) : Drawn W (V.drewN n) := by obtain ⟨q, rfl⟩ := h; exact ⟨q + n, by rw [World.drewN_drewN]⟩
theorem below_drewN {B : Nat} {a w : World} (h : Below B a w) (n : Nat) : Below B a (w.drewN n) := ⟨h.os, h.tape, h.output, h.size, h.block⟩
theorem Drawn.below {W V : World} (h : Drawn W V) (B : Nat) : Below B W V := by obtain ⟨q, rfl⟩ := h; exact below_drewN (Below.refl _ _) q
def eqLa (xs ys : List LA) : Bool := decide (xs = ys)
theorem eq_take {α : Type} {xs ys : List α} {k : Nat} (h : xs.take k = ys.take k) {x : α} (hx : xs[k]? = some x) (hy : ys[k]? = some x) : xs.take (k + 1) = ys.take (k + 1) := by
  rw [List.take_add_one, List.take_add_one, h, hx, hy]
theorem eqLa_len {xs ys : List LA} (h : xs.length ≠ ys.length) : eqLa xs ys = false := decide_eq_false (fun e => h (by rw [e]))
theorem eqLa_at {xs ys : List LA} {k : Nat} {x y : LA} (hx : xs[k]? = some x) (hy : ys[k]? = some y) (h : x ≠ y) : eqLa xs ys = false := decide_eq_false (fun e => h (by subst e; rw [hx] at hy; exact Option.some.inj hy))
theorem eqLa_all {xs ys : List LA} {n : Nat} (h1 : xs.length = n) (h2 : ys.length = n) (h : xs.take n = ys.take n) : eqLa xs ys = true := decide_eq_true (by rw [List.take_of_length_le (by omega), List.take_of_length_le (by omega)] at h; exact h)
theorem fieldsLa : Try.prog.fieldsOf 29 = #[⟨ "Err", 24, 0, false, "", "", 0⟩, ⟨ "May", 4, 1, false, "", "", 8⟩] := by kernel_rfl
theorem neq_la (a : Int) (b : Bool) (a' : Int) (b' : Bool) (w : World) : (binOp .neq 29 (.agg #[.int .i64 a, .bool b]) (.agg #[.int .i64 a', .bool b'])).run Try.prog w = .ok (.bool (!(a == a' && b == b'))) w := by
  have h0 : Try.prog.underlying 29 = some (.struct (Try.prog.fieldsOf 29)) := by kernel_rfl
  have h1 : Try.prog.stoodInHeld 29 = false := by kernel_rfl
  have hi := Try.underlying24
  have hb := Try.underlying4
  rw [run_neq_struct, run_equalIn_agg _ _ _ _ _ h0 h1, fieldsLa]
  simp [Op.eqFields, go_sem, hi, hb]
  cases h3 : a == a' <;> cases h4 : b == b' <;> simp_all
theorem eql_la (a : Int) (b : Bool) (a' : Int) (b' : Bool) (w : World) : (binOp .eql 29 (.agg #[.int .i64 a, .bool b]) (.agg #[.int .i64 a', .bool b'])).run Try.prog w = .ok (.bool (a == a' && b == b')) w := by
  have h0 : Try.prog.underlying 29 = some (.struct (Try.prog.fieldsOf 29)) := by kernel_rfl
  have h1 : Try.prog.stoodInHeld 29 = false := by kernel_rfl
  have hi := Try.underlying24
  have hb := Try.underlying4
  rw [run_eql_struct, run_equalIn_agg _ _ _ _ _ h0 h1, fieldsLa]
  simp [Op.eqFields, go_sem, hi, hb]
  cases h3 : a == a' <;> cases h4 : b == b' <;> simp_all
theorem guard_la (op : BinOp) (x y : Operand) (xs ys : Array Value) (w : World) : (eqGuard op 29 x y (.agg xs) (.agg ys)).run Try.prog w = .ok () w := run_eqGuard_agg w op _ x y xs ys (by kernel_rfl)
set_option maxHeartbeats 2000000 in
theorem equalLa_d (A B : Option Addr) (xs ys : List LA) (n m ca cb : Nat) (W : World) (hn : xs.length = n) (hm : ys.length = m) (hbig : n ≤ 9223372036854775807) (hx : Reads W A (flat laE xs)) (hy : Reads W B (flat laE ys)) :
    Calls Try.prog 10 #[.slice A n ca, .slice B m cb] W (fun e W' => e = .returned (.bool (eqLa xs ys)) ∧ ∃ q, W' = W.drewN q) := by
  by_cases e : n = m
  · subst e
    have HX := Lib.hid hx
    have HY := Lib.hid hy
    have HN := Lib.hid hn
    have HM := Lib.hid hm
    clear hx hy hn hm
    go_enter Try.func10, Try.ntmps10
    go_wp2
    go_loopw [13] (fun i wr => ∃ k : Nat, k ≤ n ∧ i = .int .i64 k ∧ Drawn W wr ∧ xs.take k = ys.take k) (fun i _ => n - (intOf i).toNat)
    case atStart => exact ⟨0, by omega, rfl, Drawn.refl _, rfl⟩
    case round =>
      obtain ⟨k, hk, rfl, hD, hT⟩ := hrel
      have HD := Lib.hid hD
      have HT := Lib.hid hT
      have hb := hD.below W.heap.size
      have HB := Lib.hid hb
      clear hD hT
      by_cases hlt : k < n
      · have kx : k < xs.length := by rw [HN.out]; exact hlt
        have ky : k < ys.length := by rw [HM.out]; exact hlt
        obtain ⟨⟨u0, u1⟩, ex⟩ : ∃ u, xs[k]? = some u := ⟨_, List.getElem?_eq_getElem kx⟩
        obtain ⟨⟨v0, v1⟩, ey⟩ : ∃ u, ys[k]? = some u := ⟨_, List.getElem?_eq_getElem ky⟩
        obtain ⟨b1, o1, rfl, _, x0, x1⟩ := la_at (HX.out.below hb) ex
        obtain ⟨b2, o2, rfl, _, y0, y1⟩ := la_at (HY.out.below hb) ey
        have EX := Lib.hid ex
        have EY := Lib.hid ey
        have i1 : (k : Int) < (n : Int) := by omega
        clear ex ey hb kx ky
        have ne := fun w => neq_la u0 u1 v0 v1 w
        have gd := fun op x y w => guard_la op x y #[.int .i64 u0, .bool u1] #[.int .i64 v0, .bool v1] w
        by_cases e : (u0, u1) = (v0, v1)
        · have eb : ((u0 : Int) == v0 && u1 == v1) = true := by
            injection e with e1 e2; subst e1 e2; simp
          have HE := Lib.hid e
          rw [eb] at ne
          clear e eb
          go_wp2
          go_quiet (fail)
          go_wp2
          go_roundw
          case rel => exact ⟨k + 1, by omega, by go_num, HD.out.more _, eq_take HT.out EX.out (by rw [HE.out]; exact EY.out)⟩
          case measure => simp [intOf]; omega
        · have eb : ((u0 : Int) == v0 && u1 == v1) = false := by
            cases h : ((u0 : Int) == v0 && u1 == v1) with
            | false => rfl
            | true =>
              simp only [Bool.and_eq_true, beq_iff_eq] at h
              exact absurd (by rw [h.1, h.2]) e
          have HE := Lib.hid (eqLa_at EX.out EY.out e)
          rw [eb] at ne
          clear e eb
          go_wp2
          go_quiet (fail)
          go_wp2
          go_ret
          exact ⟨by rw [HE.out]; rfl, HD.out.more _⟩
      · obtain rfl : k = n := by omega
        have HE := Lib.hid (eqLa_all HN.out HM.out HT.out)
        clear hb
        go_wp2
        go_ret
        exact ⟨by rw [HE.out]; rfl, HD.out⟩
  · have n1 : ((n : Int) != (m : Int)) = true := by simp; omega
    have E := Lib.hid (eqLa_len (xs := xs) (ys := ys) (by omega))
    clear hx hy hn hm e
    go_enter Try.func10, Try.ntmps10
    go_wp2
    go_ret
    exact ⟨by rw [E.out]; rfl, Drawn.refl _⟩

theorem equalLa_c (A B : Option Addr) (xs ys : List LA) (n m ca cb : Nat) (W : World) (hn : xs.length = n) (hm : ys.length = m) (hbig : n ≤ 9223372036854775807) (hx : Reads W A (flat laE xs)) (hy : Reads W B (flat laE ys)) :
    Calls Try.prog 10 #[.slice A n ca, .slice B m cb] W (Gave (.bool (eqLa xs ys)) W) :=
  (equalLa_d A B xs ys n m ca cb W hn hm hbig hx hy).mono (by rintro e w ⟨rfl, q, rfl⟩; exact ⟨rfl, below_drewN (Below.refl _ _) q⟩)

set_option maxRecDepth 100000 in
set_option maxHeartbeats 1000000 in
theorem clone_zero_lo (ad : Addr) (c : Nat) (W : World) :
    Calls Try.prog 12 #[.slice (some ad) 0 c] W fun e W' => ∃ A' c', e = .returned (.slice A' 0 c') ∧ Tab loE W' W.heap.size 34 (.slice A' 0 c') [] ∧ Below W.heap.size W W' := by
  have q22 : ∀ (w : World) (a : Option Addr) (n c n' c' : Nat), (binOp .eql 22 (.slice a n c) (.slice none n' c')).run Try.prog w = .ok (.bool a.isNone) w := fun w a n c n' c' => Go.Lib.run_eql_slice_nil w _ _ a n c n' c' Try.underlying22
  go_enter Try.func12, Try.ntmps12
  go_wp2
  go_ret
  exact ⟨some ⟨W.heap.size, 0, none⟩, 0, rfl, World.ownsRow_made W #[] 0 (Nat.le_refl _) (Nat.zero_le _) (by simp), (Below.refl _ W).alloc (Nat.le_refl _) _⟩
set_option maxRecDepth 100000 in
theorem clone_lo (A : Option Addr) (l : List LO) (n c : Nat) (W : World) (hn : l.length = n) (hbig : n ≤ 4398046511104) (hx : Reads W A (flat loE l)) :
    Calls Try.prog 12 #[.slice A n c] W fun e W' => ∃ A' c', e = .returned (.slice A' n c') ∧ Tab loE W' W.heap.size 34 (.slice A' n c') l ∧ Below W.heap.size W W' := by
  rcases Nat.eq_zero_or_pos n with h0 | h0
  · subst h0
    obtain rfl := List.eq_nil_of_length_eq_zero hn
    cases A with
    | none =>
      refine (AnyE.slices_Clone_nil Try.cloneLo 0 c W).mono ?_
      rintro e w ⟨rfl, rfl⟩
      exact ⟨none, 0, rfl, Tab.nil _ _ _, Below.refl _ _⟩
    | some a => exact clone_zero_lo a c W
  · obtain ⟨i, hi, z, hz0, hz1, hz2, hz3⟩ := elLO.hi
    have kl : 0 < l.length := by omega
    obtain ⟨b, o, rfl, _, _⟩ := lo_at hx (List.getElem?_eq_getElem kl)
    refine (AnyE.slices_Clone Try.cloneLo i z 3 24 hi hz0 hz1 hz2 hz3 (by omega) Try.sizeOf34 b o n c (flat loE l) W (by rw [flat_len, hn]) (by unfold maxLen; omega) (by omega) (fun j u hj => ?_) (flat_one loE l)).mono ?_
    · obtain ⟨b', o', e, _, h3⟩ := hx j u hj
      injection e with e
      injection e with e1 e2
      subst e1 e2
      exact h3
    · rintro e w ⟨v, rfl, hr, _, hb⟩
      have hT : Tab loE w W.heap.size 34 v l := by unfold Tab; rw [hn]; exact hr
      obtain ⟨A', c', hv, hc, _⟩ := hT.form
      rw [hn] at hv
      subst hv
      exact ⟨A', c', rfl, hT, hb⟩

/-! ### What the laws try first -/
def ops18 : List LO := [(1, 0, 0), (1, 1, 0), (3, 0, 10), (5, 0, 0), (1, 1, 0), (3, 0, 2), (1, 1, 0)]
def ans18 : List LA := [(0, true), (6, false), (0, false), (0, false), (6, false), (0, false), (0, true)]
theorem play18 : playE 2 10 1 7 = 0 ∧ playL 2 10 1 ops18 = ans18 := ⟨by decide, by decide +kernel⟩
set_option maxRecDepth 100000 in
set_option maxHeartbeats 4000000 in
theorem alive_c (hP : PlaySpec) (V : World) : Calls Try.prog 11 #[] V (Gave (.bool true) V) := by
  have P1 := Lib.hid (fun A ca V (hr : Reads V A (flat loE ops18)) => hP 2 10 1 A ops18 7 ca V ans18 7 0 (by unfold Fit; omega) (by unfold Fit; omega) (by unfold Fit; omega) rfl (by omega) hr
    (fun o ho => by
      simp only [ops18, List.mem_cons, List.mem_singleton, List.not_mem_nil, or_false] at ho
      unfold FitO Fit
      rcases ho with rfl | rfl | rfl | rfl | rfl | rfl | rfl <;> simp) play18.1 play18.2 rfl)
  go_enter Try.func11, Try.ntmps11
  go_wp2_with fail
  refine (P1.out _ _ _ (reads_lit V _ rfl)).mono ?_
  rintro e w1 ⟨A, a, rfl, _, ha, hb⟩
  have B1 := Lib.hid ((low_lit V _).trans (hb.mono (by simp)))
  have EA := Lib.hid (fun (X : World) (hX : Below w1.heap.size w1 X) B cb (hr : Reads X B (flat laE ans18)) => equalLa_c A B _ _ 7 7 a cb X rfl rfl (by omega) (ha.below hX) hr)
  clear ha hb
  go_wp2_with fail
  refine (EA.out _ (low_lit w1 _) _ _ (reads_lit w1 _ rfl)).mono ?_
  rintro e w3 ⟨rfl, hb⟩
  have B4 := Lib.hid (show Below w1.heap.size w1 w3 from (low_lit w1 _).trans (hb.mono (by simp)))
  clear hb
  go_wp2
  go_ret
  exact ⟨by simp [eqLa], B1.out.trans (B4.out.mono B1.out.size)⟩
end Go.Proofs.Yteneglbafngejaa.Le
