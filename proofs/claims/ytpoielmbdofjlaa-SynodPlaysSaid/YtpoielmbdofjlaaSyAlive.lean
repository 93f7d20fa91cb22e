/-
  Package synod: slices.Equal of answers; what the laws try first.
-/
import Derived.Test.YtpoielmbdofjlaaSyMem
import Derived.Test.YtpoielmbdofjlaaSyPure3
namespace Go.Proofs.Ytpoielmbdofjlaa.Syn
set_option linter.unusedVariables false
set_option linter.unusedSimpArgs false
open Go.RowKit Mem Gt
open Jump (Gave equalZ_c)

def eqAn (xs ys : List An) : Bool := decide (xs = ys)
theorem eq_take {α : Type} {xs ys : List α} {k : Nat} (h : xs.take k = ys.take k) {x : α} (hx : xs[k]? = some x) (hy : ys[k]? = some x) : xs.take (k + 1) = ys.take (k + 1) := by
  rw [List.take_add_one, List.take_add_one, h, hx, hy]
theorem eqAn_len {xs ys : List An} (h : xs.length ≠ ys.length) : eqAn xs ys = false := decide_eq_false (fun e => h (by rw [e]))
theorem eqAn_at {xs ys : List An} {k : Nat} {x y : An} (hx : xs[k]? = some x) (hy : ys[k]? = some y) (h : x ≠ y) : eqAn xs ys = false := decide_eq_false (fun e => h (by subst e; rw [hx] at hy; exact Option.some.inj hy))
theorem eqAn_all {xs ys : List An} {n : Nat} (h1 : xs.length = n) (h2 : ys.length = n) (h : xs.take n = ys.take n) : eqAn xs ys = true := decide_eq_true (by rw [List.take_of_length_le (by omega), List.take_of_length_le (by omega)] at h; exact h)
theorem neq_an (a c : Int) (b : Int) (a' c' : Int) (b' : Int) (w : World) : (binOp .neq 31 (.agg #[.int .i64 a, .int .u16 b, .int .i64 c]) (.agg #[.int .i64 a', .int .u16 b', .int .i64 c'])).run Try.prog w = .ok (.bool (!(a == a' && b == b' && c == c'))) w := by
  have h0 : Try.prog.underlying 31 = some (.struct (Try.prog.fieldsOf 31)) := by kernel_rfl
  have h1 : Try.prog.stoodInHeld 31 = false := by kernel_rfl
  have h2 : Try.prog.fieldsOf 31 = #[⟨ "Err", 25, 0, false, "", "", 0⟩, ⟨ "Did", 29, 1, false, "", "", 8⟩, ⟨ "Val", 3, 2, false, "", "", 16⟩] := by kernel_rfl
  have hi := Try.underlying3
  have hj := Try.underlying29
  have he := Try.underlying25
  rw [run_neq_struct, run_equalIn_agg _ _ _ _ _ h0 h1, h2]
  simp [Op.eqFields, go_sem, hi, hj, he]
  cases h3 : a == a' <;> cases h4 : b == b' <;> cases h5 : c == c' <;> simp_all
theorem guard_an (op : BinOp) (x y : Operand) (xs ys : Array Value) (w : World) : (eqGuard op 31 x y (.agg xs) (.agg ys)).run Try.prog w = .ok () w := run_eqGuard_agg w op _ x y xs ys (by kernel_rfl)
set_option maxHeartbeats 2000000 in
theorem equalAn_d (A B : Option Addr) (xs ys : List An) (n m ca cb : Nat) (W : World) (hn : xs.length = n) (hm : ys.length = m) (hbig : n ≤ 9223372036854775807) (hx : Reads W A (flat anE xs)) (hy : Reads W B (flat anE ys)) :
    Calls Try.prog 10 #[.slice A n ca, .slice B m cb] W (fun e W' => e = .returned (.bool (eqAn xs ys)) ∧ ∃ q, W' = W.drewN q) := by
  by_cases e : n = m
  · subst e
    have HX := Lib.hid hx
    have HY := Lib.hid hy
    have HN := Lib.hid hn
    have HM := Lib.hid hm
    clear hx hy hn hm
    go_enter Try.func10, Try.ntmps10
    go_wp2
    go_loopw [13] (fun i wr => ∃ k : Nat, k ≤ n ∧ i = .int .i64 k ∧ Drawn W wr ∧ xs.take k = ys.take k) (fun i _ => n - (intOf i).toNat)
    case atStart => exact ⟨0, by omega, rfl, Drawn.refl _, rfl⟩
    case round =>
      obtain ⟨k, hk, rfl, hD, hT⟩ := hrel
      have HD := Lib.hid hD
      have HT := Lib.hid hT
      have hb := hD.below W.heap.size
      have HB := Lib.hid hb
      clear hD hT
      by_cases hlt : k < n
      · have kx : k < xs.length := by rw [HN.out]; exact hlt
        have ky : k < ys.length := by rw [HM.out]; exact hlt
        obtain ⟨⟨u0, u1, u2⟩, ex⟩ : ∃ u, xs[k]? = some u := ⟨_, List.getElem?_eq_getElem kx⟩
        obtain ⟨⟨v0, v1, v2⟩, ey⟩ : ∃ u, ys[k]? = some u := ⟨_, List.getElem?_eq_getElem ky⟩
        obtain ⟨b1, o1, rfl, _, x0, x1, x2⟩ := an_at (HX.out.below hb) ex
        obtain ⟨b2, o2, rfl, _, y0, y1, y2⟩ := an_at (HY.out.below hb) ey
        have EX := Lib.hid ex
        have EY := Lib.hid ey
        have i1 : (k : Int) < (n : Int) := by omega
        clear ex ey hb kx ky
        have ne := fun w => neq_an u0 u2 (u1 : Nat) v0 v2 (v1 : Nat) w
        have gd := fun op x y w => guard_an op x y #[.int .i64 u0, .int .u16 (u1 : Nat), .int .i64 u2] #[.int .i64 v0, .int .u16 (v1 : Nat), .int .i64 v2] w
        by_cases e : (u0, u1, u2) = (v0, v1, v2)
        · have eb : ((u0 : Int) == v0 && ((u1 : Nat) : Int) == ((v1 : Nat) : Int) && (u2 : Int) == v2) = true := by
            injection e with e1 e2; injection e2 with e2 e3; subst e1 e2 e3; simp
          have HE := Lib.hid e
          rw [eb] at ne
          clear e eb
          go_wp2
          go_quiet (fail)
          go_wp2
          go_roundw
          case rel => exact ⟨k + 1, by omega, by go_num, HD.out.more _, eq_take HT.out EX.out (by rw [HE.out]; exact EY.out)⟩
          case measure => simp [intOf]; omega
        · have eb : ((u0 : Int) == v0 && ((u1 : Nat) : Int) == ((v1 : Nat) : Int) && (u2 : Int) == v2) = false := by
            cases h : ((u0 : Int) == v0 && ((u1 : Nat) : Int) == ((v1 : Nat) : Int) && (u2 : Int) == v2) with
            | false => rfl
            | true =>
              simp only [Bool.and_eq_true, beq_iff_eq] at h
              exact absurd (by rw [h.1.1, h.2, show u1 = v1 by have := h.1.2; omega]) e
          have HE := Lib.hid (eqAn_at EX.out EY.out e)
          rw [eb] at ne
          clear e eb
          go_wp2
          go_quiet (fail)
          go_wp2
          go_ret
          exact ⟨by rw [HE.out]; rfl, HD.out.more _⟩
      · obtain rfl : k = n := by omega
        have HE := Lib.hid (eqAn_all HN.out HM.out HT.out)
        clear hb
        go_wp2
        go_ret
        exact ⟨by rw [HE.out]; rfl, HD.out⟩
  · have n1 : ((n : Int) != (m : Int)) = true := by simp; omega
    have E := Lib.hid (eqAn_len (xs := xs) (ys := ys) (by omega))
    clear hx hy hn hm e
    go_enter Try.func10, Try.ntmps10
    go_wp2
    go_ret
    exact ⟨by rw [E.out]; rfl, Drawn.refl _⟩

theorem equalAn_c (A B : Option Addr) (xs ys : List An) (n m ca cb : Nat) (W : World) (hn : xs.length = n) (hm : ys.length = m) (hbig : n ≤ 9223372036854775807) (hx : Reads W A (flat anE xs)) (hy : Reads W B (flat anE ys)) :
    Calls Try.prog 10 #[.slice A n ca, .slice B m cb] W (Gave (.bool (eqAn xs ys)) W) :=
  (equalAn_d A B xs ys n m ca cb W hn hm hbig hx hy).mono (by rintro e w ⟨rfl, q, rfl⟩; exact ⟨rfl, below_drewN (Below.refl _ _) q⟩)
/-- A callee that only draws, in a region that is walked once. -/
theorem quiet_of_drawn {P : Program} {f : FuncId} {args : Array Value} {w : World} {n : Nat} {v : Value} (h : Calls P f args (w.drewN n) fun e w' => e = .returned v ∧ ∃ q, w' = (w.drewN n).drewN q) :
    Calls P f args (w.drewN n) fun e w'' => e = .returned v ∧ ∃ m, w'' = w.drewN m :=
  h.mono fun _ _ ⟨he, q, hq⟩ => ⟨he, n + q, by rw [hq, World.drewN_drewN]⟩

/-! ### What the laws try first -/
def ops0 : List VO := [(1, 1, 3, 7), (2, 1, 1, 0), (1, 2, 5, 9), (2, 2, 6, 0)]
theorem play0 : playE 3 4 = 0 ∧ playA 3 ops0 = [(0, 3, 7), (0, 1, 7), (0, 5, 7), (0, 6, 7)] ∧ playC 3 ops0 = [7] := by
  refine ⟨by decide, by decide +kernel, by decide +kernel⟩
theorem reads_lit (V : World) (t : TypeId) {cs : Array Value} {l : List Value} (h : cs.toList = l) : Reads (V.alloc (.cells cs t)) (some ⟨V.heap.size, 0, none⟩) l := fun k v hv => by
  refine ⟨V.heap.size, 0, rfl, by simp, ?_⟩
  rw [Nat.zero_add, (Known.made V t cs).cell k]
  rw [← h] at hv
  simpa using hv
theorem below_lit (V : World) (o : Obj) : Below V.heap.size V (V.alloc o) := (Below.refl _ _).alloc (Nat.le_refl _) _
set_option maxRecDepth 100000 in
theorem alive_c (hP : PlaySpec) (V : World) : Calls Try.prog 12 #[] V (Gave (.bool true) V) := by
  have P1 := Lib.hid (fun A ca V (hr : Reads V A (flat voE ops0)) => hP 3 A ops0 4 ca V [(0, 3, 7), (0, 1, 7), (0, 5, 7), (0, 6, 7)] 4 [7] 1 0 (by unfold Fit; omega) rfl (by omega) hr
    (fun o ho => by
      simp only [ops0, List.mem_cons, List.mem_singleton, List.not_mem_nil, or_false] at ho
      unfold FitO Fit
      rcases ho with rfl | rfl | rfl | rfl <;> simp) play0.1 play0.2.1 rfl play0.2.2 rfl)
  go_enter Try.func12, Try.ntmps12
  go_wp2_with fail
  refine (P1.out _ _ _ (reads_lit V _ rfl)).mono ?_
  rintro e w1 ⟨A, a, C, c, rfl, _, ha, hc, hb⟩
  have B1 := Lib.hid ((below_lit V _).trans (hb.mono (by simp)))
  have EZ := Lib.hid (fun (X : World) (hX : Below w1.heap.size w1 X) B cb (hr : Reads X B ([7].map (Value.int .i64))) => equalZ_c C B [7] [7] 1 1 c cb X rfl rfl (by omega) (by omega) (hc.below hX) hr)
  have EA := Lib.hid (fun (X : World) (hX : Below w1.heap.size w1 X) B cb (hr : Reads X B (flat anE [(0, 3, 7), (0, 1, 7), (0, 5, 7), (0, 6, 7)])) => equalAn_c A B _ _ 4 4 a cb X rfl rfl (by omega) (ha.below hX) hr)
  clear ha hc hb
  go_wp2_with fail
  refine (EZ.out _ (below_lit w1 _) _ _ (reads_lit w1 _ rfl)).mono ?_
  rintro e w2 ⟨rfl, hb⟩
  have B2 := Lib.hid (show Below w1.heap.size w1 w2 from (below_lit w1 _).trans (hb.mono (by simp)))
  clear hb
  go_wp2_with fail
  refine (EA.out _ (B2.out.trans ((below_lit w2 _).mono B2.out.size)) _ _ (reads_lit w2 _ rfl)).mono ?_
  rintro e w3 ⟨rfl, hb⟩
  have B3 := Lib.hid (B1.out.trans (B2.out.mono B1.out.size))
  have B4 := Lib.hid (show Below w2.heap.size w2 w3 from (below_lit w2 _).trans (hb.mono (by simp)))
  clear hb
  go_wp2
  go_ret
  exact ⟨rfl, B3.out.trans (B4.out.mono B3.out.size)⟩
end Go.Proofs.Ytpoielmbdofjlaa.Syn
