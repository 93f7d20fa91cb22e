/-
  Contracts of package ring: whether a ring is valid.
-/
import Derived.Test.YtpnfcjodjgbdbaaRgA
namespace Go.Proofs.Ytpnfcjodjgbdbaa.Ring
set_option linter.unusedVariables false
set_option linter.unusedSimpArgs false
open Go.RowKit Mem
open Go.Sort (grow alloc_eq_grow grow_grow)

theorem below_grow {B : Nat} {W V : World} (h : Below B W V) (hs : B ≤ V.heap.size) (q : Nat) (os : Array Obj) : Below B W (grow (V.drewN q) os) := by
  refine ⟨h.os, h.tape, h.output, ?_, fun b hb => ?_⟩
  · show _ ≤ (V.heap ++ os).size
    rw [Array.size_append]; have := h.size; omega
  · have h1 := h.block b hb
    show (V.heap ++ os)[b]? = _
    rw [Array.getElem?_append_left (by omega)]; exact h1
theorem below_undrew {B : Nat} {W V : World} (h : Below B W.drew V) : Below B W V := ⟨h.os, h.tape, h.output, h.size, h.block⟩
/-- order, for a walk. -/
theorem order_b (x y : Tk) (W : World) : Calls Try.prog 30 #[.agg #[.int .u64 x.1.toNat, .int .i64 x.2], .agg #[.int .u64 y.1.toNat, .int .i64 y.2]] W (Gave (.int .i64 (ord x y)) W) :=
  (order_c x y W).mono fun _ _ ⟨h, q, os, e⟩ => ⟨h, by rw [e]; exact below_grow (Below.refl _ _) (Nat.le_refl _) q os⟩
def sortB (ts : List Tk) : Bool := decide (Sorted ts)
theorem sortB_yes {ts : List Tk} (h : Sorted ts) : sortB ts = true := decide_eq_true h
theorem sortB_no {ts : List Tk} (h : ¬ Sorted ts) : sortB ts = false := decide_eq_false h
theorem ord_no {x y : Tk} (h : ltB x y = false) : ¬ ord x y < 0 := by rw [ord_lt] at h; simpa using h
theorem ord_yes {x y : Tk} (h : ltB x y = true) : ord x y < 0 := by rw [ord_lt] at h; simpa using h
theorem drop_last {ts : List Tk} {j n : Nat} (hn : ts.length = n) (h : n ≤ j + 1) : Sorted (ts.drop j) := sorted_short (by simp; omega)
set_option maxRecDepth 100000 in
set_option maxHeartbeats 4000000 in
theorem isSorted_c (A : Option Addr) (ts : List Tk) (n ca : Nat) (W : World) (hn : ts.length = n) (hbig : n ≤ 4611686018427387904) (hx : TRds W A ts) :
    Calls Try.prog 33 #[.slice A n ca, .func (.func 30) #[] #[]] W (Gave (.bool (sortB ts)) W) := by
  rcases Nat.eq_zero_or_pos n with h0 | h0
  · subst h0
    have E := Lib.hid (sortB_yes (sorted_short (ts := ts) (by omega)))
    clear hn hx
    go_enter Try.func33, Try.ntmps33
    go_wp2
    go_loop [5] (fun i => i = .int .i64 (-1)) (fun i => (intOf i).toNat)
    case atStart => rfl
    case round =>
      subst hrel
      go_wp2
      go_ret
      exact ⟨by rw [E.out]; rfl, Below.refl _ _⟩
  · have HX := Lib.hid hx
    have HN := Lib.hid hn
    have DL := Lib.hid (drop_last (j := n - 1) hn (by omega))
    clear hx hn
    go_enter Try.func33, Try.ntmps33
    go_wp2
    go_loopw [5] (fun i wr => ∃ j : Nat, j < n ∧ i = .int .i64 j ∧ Below W.heap.size W wr ∧ Sorted (ts.drop j)) (fun i _ => (intOf i).toNat)
    case atStart => exact ⟨n - 1, by omega, by congr 1; omega, Below.refl _ _, DL.out⟩
    case round =>
      obtain ⟨j, hj, rfl, hB, hS⟩ := hrel
      have HB := Lib.hid hB
      have HS := Lib.hid hS
      rcases Nat.eq_zero_or_pos j with hz | hz
      · subst hz
        have E := Lib.hid (sortB_yes (ts := ts) (by have := HS.out; rwa [List.drop_zero] at this))
        clear hB hS
        go_wp2
        go_ret
        exact ⟨by rw [E.out]; rfl, HB.out⟩
      · obtain ⟨m, hm⟩ : ∃ m, j = m + 1 := ⟨j - 1, by omega⟩
        have k1 : j < ts.length := by rw [HN.out]; exact hj
        have k0 : m < ts.length := by omega
        obtain ⟨b, o, rfl, _, x0, x1⟩ := (HX.out.below hB).tk k1
        obtain ⟨b', o', e', _, y0, y1⟩ := (HX.out.below hB).tk k0
        injection e' with e'
        injection e' with e1 e2
        subst e1 e2
        have EX := Lib.hid (show ts[j]? = some ts[j] from List.getElem?_eq_getElem k1)
        have EY := Lib.hid (show ts[m]? = some ts[m] from List.getElem?_eq_getElem k0)
        generalize hu : ts[j] = u at *
        generalize hv : ts[m] = v at *
        obtain ⟨u0, u1⟩ := u
        obtain ⟨v0, v1⟩ := v
        have H1 := Lib.hid (fun V => order_b (u0, u1) (v0, v1) V)
        have e2 : IntKind.i64.wrap ((j : Int) - 1) = (m : Int) := by rw [show (j : Int) - 1 = m by omega]; exact IntWalk.i64_in _ (by omega)
        have i1 : (j : Int) < (n : Int) := by omega
        have i2 : (m : Int) < (n : Int) := by omega
        have i3 : (0 : Int) < (j : Int) := by omega
        have i4 : (j : Int) - 1 = (m : Int) := by omega
        have HM := Lib.hid hm
        clear hu hv hB hS k1 k0 hm
        cases hlt : ltB (u0, u1) (v0, v1) with
        | true =>
          have o1 := ord_yes hlt
          have E := Lib.hid (sortB_no (not_sorted EY.out (by have := EX.out; rwa [HM.out] at this) hlt))
          generalize hr : ord (u0, u1) (v0, v1) = r at *
          clear hr hlt i4
          go_wp2
          refine Mem.region_tail 10 (by kernel_rfl) (by kernel_rfl) ?_
          simp only [List.take_succ_cons, List.take_zero, List.drop_succ_cons, List.drop_zero]
          repeat still_step
          refine wpStill_nil ?_
          go_wp2_with (go_at_call 30; refine (H1.out _).mono ?_; rintro e w' ⟨rfl, hb⟩; have HC := Lib.hid (HB.out.trans ((below_undrew hb).mono HB.out.size)); clear hb)
          go_ret
          exact ⟨by rw [E.out]; rfl, HC.out⟩
        | false =>
          have o1 := ord_no hlt
          have S2 := Lib.hid (sorted_drop_succ EY.out (by have := EX.out; rwa [HM.out] at this) hlt (by have := HS.out; rwa [HM.out] at this))
          generalize hr : ord (u0, u1) (v0, v1) = r at *
          clear hr hlt i4
          go_wp2
          refine Mem.region_tail 10 (by kernel_rfl) (by kernel_rfl) ?_
          simp only [List.take_succ_cons, List.take_zero, List.drop_succ_cons, List.drop_zero]
          repeat still_step
          refine wpStill_nil ?_
          have i4 : (j : Int) - 1 = (m : Int) := by have := HM.out; omega
          go_wp2_with (go_at_call 30; refine (H1.out _).mono ?_; rintro e w' ⟨rfl, hb⟩; have HC := Lib.hid (HB.out.trans ((below_undrew hb).mono HB.out.size)); clear hb)
          go_roundw
          case rel => exact ⟨m, by omega, rfl, HC.out, S2.out⟩
          case measure => simp [intOf]; have := HM.out; omega
end Go.Proofs.Ytpnfcjodjgbdbaa.Ring
