/-
  A map[int]bool that a call makes, in which nothing but true is stored: a set of integers.
-/
import Derived.Test.YtcbecpgllebepaaRow
import Derived.Maps.OwnOps
import Derived.Maps.OwnSet
import Derived.Maps.Views
namespace Go.Proofs.Ytcbecpgllebepaa.Mem
set_option linter.unusedVariables false
open Go.RowKit
open Go.Maps (Keyed)

theorem intKeyed : Keyed Try.prog 3 := Go.Maps.int_keyed Try.underlying3
theorem boolZero (w : World) : (zeroValue 4).run Try.prog w = .ok (.bool false) w := by kernel_rfl
theorem plainElem_bool_inv {e : TypeId} (he : Try.prog.underlying e = some .bool) {v : Value} {z : DataW Unit × List MemPlace} (h : plainElem Try.prog e v = some z) : ∃ x, v = .bool x ∧ z = (.lit (.bool x), []) := by
  unfold plainElem at h
  rw [he] at h
  cases v <;> simp at h
  subst h
  exact ⟨_, rfl, rfl⟩
/-- Block b is a map that holds true at the numbers S and nothing else. -/
def IntSet (W : World) (b : Nat) (S : List Int) : Prop :=
  ∃ (D : DataW Unit) (n : Nat), n ≤ S.length ∧ Maps.IsMap D ∧ W.ownsMap Try.prog 3 (plainElem Try.prog 4) b n D ∧ ∀ x : Int, (Lit.int .i64 x).wf = true → D.atKey (.int .i64 x) (.lit (.bool false)) = .lit (.bool (decide (x ∈ S)))
section
variable {W V : World} {b : Nat} {S : List Int}
theorem IntSet.made (W : World) : IntSet (W.alloc (.map #[] 0)) W.heap.size [] :=
  ⟨.map [], 0, Nat.le_refl _, ⟨_, rfl⟩, World.ownsMap_made W _ _ _, fun x _ => by simp [DataW.atKey]⟩
theorem IntSet.lt (h : IntSet W b S) : b < W.heap.size := by obtain ⟨D, n, _, _, h1, _⟩ := h; exact h1.lt
theorem IntSet.kept {row : Option Nat} (h : IntSet W b S) (hg : W.grownBy V row) (hne : some b ≠ row) : IntSet V b S := by
  obtain ⟨D, n, h1, h2, h3, h4⟩ := h; exact ⟨D, n, h1, h2, h3.kept hg hne, h4⟩
theorem IntSet.later (h : IntSet W b S) (hb : Below W.heap.size W V) : IntSet V b S :=
  h.kept (row := none) ⟨hb.os, hb.tape, hb.output, hb.size, fun k hk _ => hb.block k hk⟩ (by simp)
theorem IntSet.alloc (h : IntSet W b S) (o : Obj) : IntSet (W.alloc o) b S := h.later ((Below.refl _ _).alloc (Nat.le_refl _) _)
theorem IntSet.drawn (h : IntSet W b S) (hd : Drawn W V) : IntSet V b S := h.later (hd.below _)
set_option maxRecDepth 100000 in
theorem IntSet.look (h : IntSet W b S) (x : Int) (hx : (Lit.int .i64 x).wf = true) : (Instr.lookup 39 (.map (some b)) (.int .i64 x) false).run Try.prog W = .ok (.bool (decide (x ∈ S))) W := by
  obtain ⟨D, n, h1, h2, h3, h4⟩ := h
  obtain ⟨v, ps, hrun, hv⟩ := h3.lookup intKeyed Try.underlying39 (boolZero W) (plainElem_bool Try.underlying4 false) (Go.Maps.keyOf_int_mk Try.underlying3 hx)
  obtain ⟨y, rfl, hz⟩ := plainElem_bool_inv Try.underlying4 hv
  rw [hrun]
  rw [h4 x hx] at hz
  injection hz with hz _
  injection hz with hz
  injection hz with hz
  rw [hz]
set_option maxRecDepth 100000 in
theorem IntSet.upd (h : IntSet W b S) (hn : S.length < maxLen) (x : Int) (hx : (Lit.int .i64 x).wf = true) :
    ∃ V, (Instr.mapUpdate 39 (.map (some b)) (.int .i64 x) (.bool true)).run Try.prog W = .ok () V ∧ IntSet V b (x :: S) ∧ W.grownBy V (some b) := by
  obtain ⟨D, n, h1, h2, h3, h4⟩ := h
  obtain ⟨V, r1, r2, r3⟩ := h3.update intKeyed Try.underlying39 (Nat.lt_of_le_of_lt h1 hn) (Go.Maps.keyOf_int_mk Try.underlying3 hx) (plainElem_bool Try.underlying4 true)
  refine ⟨V, r1, ⟨_, n + 1, by simp; omega, ?_, r2, fun y hy => ?_⟩, r3⟩
  · exact h2.put _ _
  · by_cases e : y = x
    · subst e
      rw [Maps.atKey_put_same h2 (intKeyed.key (Go.Maps.keyOf_int_mk Try.underlying3 hx))]
      simp
    · rw [Maps.atKey_put_other (fun e' => e (by injection e')), h4 y hy]
      simp [e]
theorem wpList_lookup_set {ops : Array Oper} {rest : List Oper} {o : Oper} {a : Act} {Q : Exit → Act → World → Prop} (hg : o.guard = none) (m x : Operand) (hop : o.op = Op.lookup 39 m x false)
    (hS : IntSet W b S) (y : Int) (hy : (Lit.int .i64 y).wf = true) (hm : a.eval m = .map (some b)) (hx : a.eval x = .int .i64 y) (c : Bool) (hc : decide (y ∈ S) = c)
    (h : wpList Try.prog ops Q rest (a.put o.dst (.bool c)) W) : wpList Try.prog ops Q (o :: rest) a W := by
  subst hc
  refine wpList_plain hg fun K' hK' => ?_
  have hrun := hS.look y hy
  unfold Oper.wp
  simp [execOp, hop, hm, hx, hrun, Result.andThen]
  exact hK' _ _ (by simpa using h)
theorem wpList_update_set {ops : Array Oper} {rest : List Oper} {o : Oper} {a : Act} {Q : Exit → Act → World → Prop} (hg : o.guard = none) (m x v : Operand) (hop : o.op = Op.mapUpdate 39 m x v)
    (hS : IntSet W b S) (hn : S.length < maxLen) (y : Int) (hy : (Lit.int .i64 y).wf = true) (hm : a.eval m = .map (some b)) (hx : a.eval x = .int .i64 y) (hv : a.eval v = .bool true)
    (h : ∀ V, IntSet V b (y :: S) → W.grownBy V (some b) → wpList Try.prog ops Q rest (a.put o.dst undef) V) : wpList Try.prog ops Q (o :: rest) a W := by
  refine wpList_plain hg fun K' hK' => ?_
  obtain ⟨V, hrun, r1, r2⟩ := hS.upd hn y hy
  unfold Oper.wp
  simp [execOp, hop, hm, hx, hv, hrun, Result.andThen]
  exact hK' _ _ (h V r1 r2)
end
end Go.Proofs.Ytcbecpgllebepaa.Mem
