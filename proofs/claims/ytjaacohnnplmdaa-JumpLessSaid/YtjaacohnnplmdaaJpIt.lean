/-
  The iterator over the visited buckets: for every loop body that leaves its two captured variables alone, the buckets that are less than the number come, in order.
-/
import Derived.Test.YtjaacohnnplmdaaJpFns
import Derived.Test.YtjaacohnnplmdaaStInts
import Derived.RangeFuncNested
import Derived.RangeFuncBound
import Derived.RangeFuncCalls
import Derived.RangeFuncLeaves
import Derived.RangeFuncBox
import Derived.Shelf.Abstract
import Derived.Shelf.RegionOpen
import Derived.OwnWalkIn
import Derived.TacticsInMore
import Derived.LoopNIn
import Derived.LoopIn
import Derived.Maps.AppendAt
namespace Go.Proofs.Ytjaacohnnplmdaa.Jump
set_option linter.unusedVariables false
set_option linter.unusedSimpArgs false
open Go.RowKit Mem

attribute [local go_sem] Oper.semAt_some

/-- The first n visited buckets. -/
def bkl (key : UInt64) (n : Nat) : List Nat := (List.range n).map (bk key)
theorem bkl_len (key : UInt64) (n : Nat) : (bkl key n).length = n := by simp [bkl]
theorem bkl_succ (key : UInt64) (n : Nat) : bkl key (n + 1) = bkl key n ++ [bk key n] := by simp [bkl, List.range_succ]
theorem bkl_all (key : UInt64) (m : Nat) : (bkl key (cnt key m)).map Stripe.nat64 = (jumps key m).map (Value.int .i64) := by
  simp [bkl, jumps, Stripe.nat64, Function.comp_def]
/-- Two blocks lie as they lay. -/
def Kept (B1 B2 : Nat) (W W' : World) : Prop := W'.heap[B1]? = W.heap[B1]? ∧ W'.heap[B2]? = W.heap[B2]?
theorem kept_t {B1 B2 : Nat} {A B C : World} (h : Kept B1 B2 A B) (k : Kept B1 B2 B C) : Kept B1 B2 A C := ⟨k.1.trans h.1, k.2.trans h.2⟩
theorem kept_b {B1 B2 : Nat} {w : World} (h1 : B1 < w.heap.size) (h2 : B2 < w.heap.size) (W : World) (l : Nat) (o o' : Obj) (hl : w.heap.size ≤ l) (h : W.heap[l]? = some o) (_ : o.isCells = false) (_ : o.isWalk = false) : Kept B1 B2 W (W.putObj l o') :=
  ⟨World.putObj_heap_other (by omega), World.putObj_heap_other (by omega)⟩
theorem kept_below {B1 B2 n : Nat} {W V : World} (h : Below n W V) (h1 : B1 < n) (h2 : B2 < n) : Kept B1 B2 W V := ⟨h.block B1 h1, h.block B2 h2⟩
theorem meas {m b c : Nat} (h1 : b < m) (h2 : b < c) : m - (intOf (.int .i64 (c : Int))).toNat < m - (intOf (.int .i64 (b : Int))).toNat := by
  simp [intOf]; omega
set_option maxRecDepth 100000 in
set_option maxHeartbeats 1000000 in
theorem steps_in (n : Nat) (hn : 1 ≤ n) (l B1 B2 : Nat) (key : UInt64) (m : Nat) (hm : m ≤ 1048576) (J Jx : List Nat → World → Prop)
    (hY : ∀ pre (x : Nat) W, J pre W → pre.length < cnt key m → YieldAt Fence.wide (n - 1) Try.prog l #[.int .i64 (x : Int)] W fun e W' =>
      (e = .returned (.bool true) ∧ J (pre ++ [x]) W' ∧ Kept B1 B2 W W') ∨ (e = .returned (.bool false) ∧ Jx (pre ++ [x]) W'))
    (W : World) (h1 : W.heap[B1]? = some (.cells #[.int .u64 key.toNat] 22 (0, 0))) (h2 : W.heap[B2]? = some (.cells #[.int .i64 (m : Int)] 3 (0, 0))) (h0 : J [] W) :
    CallsIn Fence.wide n Try.prog 27 #[.func (.yield l) #[] #[], .pointer (some ⟨B1, 0, none⟩), .pointer (some ⟨B2, 0, none⟩)] W fun e W' => (∃ v, e = .returned v) ∧
      ((∃ ys, ys = bkl key (cnt key m) ∧ J ys W') ∨ (∃ pre, True ∧ Jx pre W')) := by
  have NX := Lib.hid (show ∀ i, bk key i < 1048576 → ∀ V, Calls Try.prog 28 #[.int .u64 (kk key (i + 1)).toNat, .int .i64 (bk key i)] V fun e w => e = .returned (.int .i64 (bk key (i + 1))) ∧ V = w from
    fun i hi V => next_c (kk key (i + 1)) (bk key i) hi V)
  have HC := Lib.hid (show ∀ V : World, Kept B1 B2 W V → Boxed V B1 22 (.int .u64 key.toNat) ∧ Boxed V B2 3 (.int .i64 (m : Int)) from fun V h => ⟨h.1.trans h1, h.2.trans h2⟩)
  have hc1 : W.cell? ⟨B1, 0, none⟩ = some (.int .u64 key.toNat) := Boxed.cell h1
  clear h1 h2
  refine callsIn_of_wp Try.func27 rfl trivial ?_ rfl
  simp only [Try.ntmps27, List.size_toArray, List.length_cons, List.length_nil, Nat.reduceAdd, Nat.reduceSub, Array.replicate_succ, Array.replicate_zero, List.push_toArray, List.append_toArray, List.nil_append, List.cons_append]
  gi_wp2
  gi_loopw [4, 5] (fun vs vb wr => ∃ i : Nat, i ≤ cnt key m ∧ vs = .int .u64 (kk key i).toNat ∧ vb = .int .i64 (bk key i) ∧ J (bkl key i) wr ∧ Kept B1 B2 W wr)
    (fun _ vb _ => m - (intOf vb).toNat)
  case atStart => exact ⟨0, by omega, rfl, rfl, h0, rfl, rfl⟩
  case round =>
    obtain ⟨i, hi, rfl, rfl, hJ, hK⟩ := hrel
    have hb2 := (HC.out _ hK).2.cell
    have hlt : i < cnt key m ↔ bk key i < m := cnt_iff
    have HT := Lib.hid hlt
    have HI := Lib.hid hi
    have HKK := Lib.hid hK
    have HJ := Lib.hid hJ
    have BS := Lib.hid (bkl_succ key i)
    have BL := Lib.hid (bkl_len key i)
    have hkn : IntKind.u64.wrap (IntKind.u64.wrap (((kk key i).toNat : Int) * 2862933555777941757) + 1) = ((kk key (i + 1)).toNat : Int) := by
      rw [kk_succ, nk_nat, IntKind.wrap_u64, IntKind.wrap_u64]; omega
    clear hlt hi hK hJ
    rcases Nat.lt_or_ge (bk key i) m with hbm | hbm
    · have nx := NX.out i (by omega)
      have hic := HT.out.2 hbm
      have HIC := Lib.hid hic
      obtain ⟨fn, tmps, assign, body, hy, hR⟩ := hY (bkl key i) (bk key i) wr HJ.out (by rw [BL.out]; exact hic)
      have hbi : decide ((bk key i : Int) < (m : Int)) = true := decide_eq_true (by omega)
      have HB := Lib.hid (bk_next key i)
      generalize hbx : bk key (i + 1) = bx at *
      generalize hb1 : bk key i = b at *
      generalize hk1 : kk key (i + 1) = k1 at *
      generalize hk0 : kk key i = k0 at *
      gi_wp2
      refine hR.mono ?_
      rintro e W3 (⟨rfl, hJ3, hk3⟩ | ⟨rfl, hJx3⟩)
      · have HJ3 := Lib.hid hJ3
        have HK3 := Lib.hid (kept_t HKK.out hk3)
        clear hJ3 hk3 hY
        gi_wp2_with (refine ⟨trivial, ?_⟩; gi_at_call 28; refine (callsIn_wide.2 (nx _)).mono ?_; rintro e w' ⟨rfl, rfl⟩)
        go_roundw
        case rel => exact ⟨i + 1, HIC.out, by rw [hk1], by rw [hbx], by rw [BS.out]; exact HJ3.out, HK3.out⟩
        case measure => exact meas hbm HB.out
      · gi_wp2
        go_end0
        exact ⟨⟨_, rfl⟩, .inr ⟨_, trivial, hJx3⟩⟩
    · have hic : i = cnt key m := by
        rcases Nat.lt_or_ge i (cnt key m) with h | h
        · have := HT.out.1 h; omega
        · have := HI.out; omega
      have hbi : decide ((bk key i : Int) < (m : Int)) = false := decide_eq_false (by omega)
      have HG := Lib.hid (show ∃ ys, ys = bkl key (cnt key m) ∧ J ys wr from ⟨_, rfl, by rw [← hic]; exact HJ.out⟩)
      generalize bk key i = b at *
      clear hic
      gi_wp2
      refine ⟨fun _ h => (by cases h), ?_⟩
      gi_wp2
      go_end0
      exact ⟨⟨_, rfl⟩, .inl HG.out⟩
end Go.Proofs.Ytjaacohnnplmdaa.Jump
