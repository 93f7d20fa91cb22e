/-
  A map[uint16]bool that a call makes: an answer for each set.
-/
import Derived.Test.YteggbepibfpjcaaQrMem
import Derived.Maps.OwnOps
import Derived.Maps.OwnSet
import Derived.Maps.Views
namespace Go.Proofs.Yteggbepibfpjcaa.Qr
set_option linter.unusedVariables false
open Go.RowKit Mem
open Go.Maps (Keyed)

theorem wf16 {x : Nat} (h : x < 65536) : (Lit.int .u16 (x : Int)).wf = true := by
  simp [Lit.wf, IntKind.min, IntKind.max, IntKind.bits, IntKind.signed]; omega
theorem u16Keyed : Keyed Try.prog 23 := Go.Maps.int_keyed Try.underlying23
theorem boolZero (w : World) : (zeroValue 4).run Try.prog w = .ok (.bool false) w := by kernel_rfl
theorem plainElem_bool_inv {e : TypeId} (he : Try.prog.underlying e = some .bool) {v : Value} {z : DataW Unit × List MemPlace} (h : plainElem Try.prog e v = some z) : ∃ x, v = .bool x ∧ z = (.lit (.bool x), []) := by
  unfold plainElem at h
  rw [he] at h
  cases v <;> simp at h
  subst h
  exact ⟨_, rfl, rfl⟩
/-- Block b is a map that answers f; it holds N answers at most. -/
def BMap (W : World) (b : Nat) (f : Nat → Bool) (N : Nat) : Prop :=
  ∃ (D : DataW Unit) (n : Nat), n ≤ N ∧ Maps.IsMap D ∧ W.ownsMap Try.prog 23 (plainElem Try.prog 4) b n D ∧ ∀ x : Nat, x < 65536 → D.atKey (.int .u16 (x : Int)) (.lit (.bool false)) = .lit (.bool (f x))
section
variable {W V : World} {b : Nat} {f : Nat → Bool} {N : Nat}
theorem BMap.made (W : World) : BMap (W.alloc (.map #[] 0)) W.heap.size (fun _ => false) 0 :=
  ⟨.map [], 0, Nat.le_refl _, ⟨_, rfl⟩, World.ownsMap_made W _ _ _, fun x _ => by simp [DataW.atKey]⟩
theorem BMap.lt (h : BMap W b f N) : b < W.heap.size := by obtain ⟨D, n, _, _, h1, _⟩ := h; exact h1.lt
theorem BMap.kept {row : Option Nat} (h : BMap W b f N) (hg : W.grownBy V row) (hne : some b ≠ row) : BMap V b f N := by
  obtain ⟨D, n, h1, h2, h3, h4⟩ := h; exact ⟨D, n, h1, h2, h3.kept hg hne, h4⟩
theorem BMap.later (h : BMap W b f N) (hb : Below W.heap.size W V) : BMap V b f N :=
  h.kept (row := none) ⟨hb.os, hb.tape, hb.output, hb.size, fun k hk _ => hb.block k hk⟩ (by simp)
theorem BMap.alloc (h : BMap W b f N) (o : Obj) : BMap (W.alloc o) b f N := h.later ((Below.refl _ _).alloc (Nat.le_refl _) _)
theorem BMap.congr {g : Nat → Bool} (h : BMap W b f N) (e : ∀ x, x < 65536 → f x = g x) : BMap W b g N := by
  obtain ⟨D, n, h1, h2, h3, h4⟩ := h; exact ⟨D, n, h1, h2, h3, fun x hx => by rw [h4 x hx, e x hx]⟩
set_option maxRecDepth 100000 in
theorem BMap.look (h : BMap W b f N) (x : Nat) (hx : x < 65536) : (Instr.lookup 36 (.map (some b)) (.int .u16 (x : Int)) false).run Try.prog W = .ok (.bool (f x)) W := by
  obtain ⟨D, n, h1, h2, h3, h4⟩ := h
  obtain ⟨v, ps, hrun, hv⟩ := h3.lookup u16Keyed Try.underlying36 (boolZero W) (plainElem_bool Try.underlying4 false) (Go.Maps.keyOf_int_mk Try.underlying23 (wf16 hx))
  obtain ⟨y, rfl, hz⟩ := plainElem_bool_inv Try.underlying4 hv
  rw [hrun]
  rw [h4 x hx] at hz
  injection hz with hz _
  injection hz with hz
  injection hz with hz
  rw [hz]
set_option maxRecDepth 100000 in
theorem BMap.upd (h : BMap W b f N) (hn : N < maxLen) (x : Nat) (hx : x < 65536) (c : Bool) :
    ∃ V, (Instr.mapUpdate 36 (.map (some b)) (.int .u16 (x : Int)) (.bool c)).run Try.prog W = .ok () V ∧ BMap V b (fun y => if y = x then c else f y) (N + 1) ∧ W.grownBy V (some b) := by
  obtain ⟨D, n, h1, h2, h3, h4⟩ := h
  obtain ⟨V, r1, r2, r3⟩ := h3.update u16Keyed Try.underlying36 (Nat.lt_of_le_of_lt h1 hn) (Go.Maps.keyOf_int_mk Try.underlying23 (wf16 hx)) (plainElem_bool Try.underlying4 c)
  refine ⟨V, r1, ⟨_, n + 1, by omega, ?_, r2, fun y hy => ?_⟩, r3⟩
  · exact h2.put _ _
  · by_cases e : y = x
    · subst e
      rw [Maps.atKey_put_same h2 (u16Keyed.key (Go.Maps.keyOf_int_mk Try.underlying23 (wf16 hx)))]
      simp
    · rw [Maps.atKey_put_other (fun e' => e (by injection e' with _ e'; omega)), h4 y hy]
      simp [e]
theorem wpList_lookup_b {ops : Array Oper} {rest : List Oper} {o : Oper} {a : Act} {Q : Exit → Act → World → Prop} (hg : o.guard = none) (m x : Operand) (hop : o.op = Op.lookup 36 m x false)
    (hS : BMap W b f N) (y : Nat) (hy : y < 65536) (hm : a.eval m = .map (some b)) (hx : a.eval x = .int .u16 (y : Int)) (c : Bool) (hc : f y = c)
    (h : wpList Try.prog ops Q rest (a.put o.dst (.bool c)) W) : wpList Try.prog ops Q (o :: rest) a W := by
  subst hc
  refine wpList_plain hg fun K' hK' => ?_
  have hrun := hS.look y hy
  unfold Oper.wp
  simp [execOp, hop, hm, hx, hrun, Result.andThen]
  exact hK' _ _ (by simpa using h)
theorem wpList_update_b {ops : Array Oper} {rest : List Oper} {o : Oper} {a : Act} {Q : Exit → Act → World → Prop} (hg : o.guard = none) (m x v : Operand) (hop : o.op = Op.mapUpdate 36 m x v)
    (hS : BMap W b f N) (hn : N < maxLen) (y : Nat) (hy : y < 65536) (c : Bool) (hm : a.eval m = .map (some b)) (hx : a.eval x = .int .u16 (y : Int)) (hv : a.eval v = .bool c)
    (h : ∀ V, BMap V b (fun z => if z = y then c else f z) (N + 1) → W.grownBy V (some b) → wpList Try.prog ops Q rest (a.put o.dst undef) V) : wpList Try.prog ops Q (o :: rest) a W := by
  refine wpList_plain hg fun K' hK' => ?_
  obtain ⟨V, hrun, r1, r2⟩ := hS.upd hn y hy c
  unfold Oper.wp
  simp [execOp, hop, hm, hx, hv, hrun, Result.andThen]
  exact hK' _ _ (h V r1 r2)
end
end Go.Proofs.Yteggbepibfpjcaa.Qr
