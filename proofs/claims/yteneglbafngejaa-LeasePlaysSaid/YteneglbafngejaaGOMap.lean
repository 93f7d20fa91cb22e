/-
  Maps from integers to integers that a call makes, with deletion: each number has a value, or none.
-/
import Derived.Test.YteneglbafngejaaGMap
import Derived.Maps.RangeWalk
namespace Go.Proofs.Yteneglbafngejaa.Gt
set_option linter.unusedVariables false
open Go.RowKit Mem
open Go.Maps (Keyed)

def WfZ (x : Int) : Prop := (Lit.int .i64 x).wf = true
def putO (f : Int → Option Int) (x : Int) (v : Option Int) : Int → Option Int := fun y => if y = x then v else f y
/-- Block b is a map that holds f; at most n entries. -/
def OMap (W : World) (b : Nat) (f : Int → Option Int) (n : Nat) : Prop :=
  ∃ (D : DataW Unit), Maps.Tidy D ∧ W.ownsMap Try.prog 3 (plainElem Try.prog 3) b n D ∧ (∀ x : Int, WfZ x → D.atKey (.int .i64 x) (.lit (.int .i64 0)) = .lit (.int .i64 ((f x).getD 0))) ∧
    (∀ x : Int, WfZ x → Maps.has D (.int .i64 x) = (f x).isSome)
theorem intZo (w : World) : (zeroValue 3).run Try.prog w = .ok (.int .i64 0) w := by kernel_rfl
section
variable {W V : World} {b n : Nat} {f : Int → Option Int}
theorem OMap.made (W : World) : OMap (W.alloc (.map #[] 0)) W.heap.size (fun _ => none) 0 :=
  ⟨.map [], Maps.tidy_empty, World.ownsMap_made W _ _ _, fun x _ => by simp [DataW.atKey], fun x _ => by simp [Maps.has_eq]⟩
theorem OMap.lt (h : OMap W b f n) : b < W.heap.size := by obtain ⟨D, _, h1, _⟩ := h; exact h1.lt
theorem OMap.kept {row : Option Nat} (h : OMap W b f n) (hg : W.grownBy V row) (hne : some b ≠ row) : OMap V b f n := by
  obtain ⟨D, h2, h3, h4⟩ := h; exact ⟨D, h2, h3.kept hg hne, h4⟩
theorem OMap.later (h : OMap W b f n) (hb : Below W.heap.size W V) : OMap V b f n :=
  h.kept (row := none) ⟨hb.os, hb.tape, hb.output, hb.size, fun k hk _ => hb.block k hk⟩ (by simp)
theorem OMap.alloc (h : OMap W b f n) (o : Obj) : OMap (W.alloc o) b f n := h.later ((Below.refl _ _).alloc (Nat.le_refl _) _)
theorem OMap.drewN (h : OMap W b f n) (m : Nat) : OMap (W.drewN m) b f n := h
theorem OMap.setCell (h : OMap W b f n) {a : Addr} (ha : b ≠ a.block) (u : Value) : OMap (W.setCell a u) b f n := by
  obtain ⟨D, h2, h3, h4⟩ := h; exact ⟨D, h2, h3.setCell ha u, h4⟩
theorem OMap.mono {m : Nat} (h : OMap W b f n) (hm : n ≤ m) : OMap W b f m := by
  obtain ⟨D, h2, h3, h4⟩ := h; exact ⟨D, h2, h3.mono hm, h4⟩
set_option maxRecDepth 100000 in
theorem OMap.look (h : OMap W b f n) {t : TypeId} (ht : Try.prog.underlying t = some (.map 3 3)) (x : Int) (hx : WfZ x) :
    (Instr.lookup t (.map (some b)) (.int .i64 x) false).run Try.prog W = .ok (.int .i64 ((f x).getD 0)) W := by
  obtain ⟨D, h2, h3, h4, _⟩ := h
  obtain ⟨c, hrun, hat, _⟩ := h3.lookup_int keyI ht Try.underlying3 (intZo W) (Go.Maps.keyOf_int_mk Try.underlying3 hx)
  rw [hrun]
  rw [h4 x hx] at hat
  injection hat with hat
  injection hat with _ hat
  rw [hat]
set_option maxRecDepth 100000 in
theorem OMap.look2 (h : OMap W b f n) {t : TypeId} (ht : Try.prog.underlying t = some (.map 3 3)) (x : Int) (hx : WfZ x) :
    (Instr.lookup t (.map (some b)) (.int .i64 x) true).run Try.prog W = .ok (.tuple #[.int .i64 ((f x).getD 0), .bool (f x).isSome]) W := by
  obtain ⟨D, h2, h3, h4, h5⟩ := h
  obtain ⟨v, ps, hrun, hv⟩ := h3.look_ok keyI ht (intZo W) (plainElem_int Try.underlying3 (show (Lit.int .i64 0).wf = true by decide)) (Go.Maps.keyOf_int_mk Try.underlying3 hx)
  obtain ⟨c, rfl, hc, _⟩ := plainElem_int_inv Try.underlying3 hv
  simp only [Prod.mk.injEq] at hc
  have hat := hc.1
  rw [h4 x hx] at hat
  injection hat with hat
  injection hat with _ hat
  rw [hrun, hat, h5 x hx]
set_option maxRecDepth 100000 in
theorem OMap.upd (h : OMap W b f n) {t : TypeId} (ht : Try.prog.underlying t = some (.map 3 3)) (hn : n < maxLen) (x : Int) (hx : WfZ x) (v : Int) (hw : WfZ v) :
    ∃ V, (Instr.mapUpdate t (.map (some b)) (.int .i64 x) (.int .i64 v)).run Try.prog W = .ok () V ∧ OMap V b (putO f x (some v)) (n + 1) ∧ W.grownBy V (some b) := by
  obtain ⟨D, h2, h3, h4, h5⟩ := h
  obtain ⟨V, r1, r2, r3⟩ := h3.update keyI ht hn (Go.Maps.keyOf_int_mk Try.underlying3 hx) (plainElem_int Try.underlying3 hw)
  have hk := keyI.key (Go.Maps.keyOf_int_mk (P := Try.prog) Try.underlying3 hx)
  refine ⟨V, r1, ⟨_, h2.put hk _, r2, fun y hy => ?_, fun y hy => ?_⟩, r3⟩
  · by_cases e : y = x
    · subst e
      rw [Maps.atKey_put_same h2.isMap hk]; unfold putO; rw [if_pos rfl]; rfl
    · rw [Maps.atKey_put_other (fun e' => e (by injection e')), h4 y hy]; unfold putO; rw [if_neg e]
  · by_cases e : y = x
    · subst e
      rw [Maps.has_put_same h2.isMap hk]; unfold putO; rw [if_pos rfl]; rfl
    · rw [Maps.has_put_other (fun e' => e (by injection e')), h5 y hy]; unfold putO; rw [if_neg e]
set_option maxRecDepth 100000 in
theorem OMap.del (h : OMap W b f n) {t : TypeId} (ht : Try.prog.underlying t = some (.map 3 3)) (x : Int) (hx : WfZ x) (ty : TypeId) :
    ∃ V, (Builtin.delete_ #[t, 3] ty #[.map (some b), .int .i64 x]).run Try.prog W = .ok (.tuple #[]) V ∧ OMap V b (putO f x none) n ∧ W.grownBy V (some b) := by
  obtain ⟨D, h2, h3, h4, h5⟩ := h
  obtain ⟨V, r1, r2, r3⟩ := h3.drop keyI ht (Go.Maps.keyOf_int_mk Try.underlying3 hx) ty
  refine ⟨V, r1, ⟨_, h2.del _, r2, fun y hy => ?_, fun y hy => ?_⟩, r3.grown⟩
  · by_cases e : y = x
    · subst e
      rw [Maps.atKey_del_same]; unfold putO; rw [if_pos rfl]; rfl
    · rw [Maps.atKey_del_other (fun e' => e (by injection e')), h4 y hy]; unfold putO; rw [if_neg e]
  · by_cases e : y = x
    · subst e
      rw [Maps.has_del_same]; unfold putO; rw [if_pos rfl]; rfl
    · rw [Maps.has_del_other (fun e' => e (by injection e')), h5 y hy]; unfold putO; rw [if_neg e]
theorem wpList_update_o {ops : Array Oper} {rest : List Oper} {o : Oper} {a : Act} {Q : Exit → Act → World → Prop} {t : TypeId} (ht : Try.prog.underlying t = some (.map 3 3))
    (hg : o.guard = none) (m x v : Operand) (hop : o.op = Op.mapUpdate t m x v) (hS : OMap W b f n) (hn : n < maxLen) (y : Int) (hy : WfZ y) (hm : a.eval m = .map (some b)) (hx : a.eval x = .int .i64 y) (u : Int) (hu : WfZ u) (hv : a.eval v = .int .i64 u)
    (h : ∀ V, Hid (OMap V b (putO f y (some u)) (n + 1)) → Hid (W.grownBy V (some b)) → wpList Try.prog ops Q rest (a.put o.dst undef) V) : wpList Try.prog ops Q (o :: rest) a W := by
  refine wpList_plain hg fun K' hK' => ?_
  obtain ⟨V, hrun, r1, r2⟩ := hS.upd ht hn y hy u hu
  unfold Oper.wp
  simp [execOp, hop, hm, hx, hv, hrun, Result.andThen]
  exact hK' _ _ (h V r1 r2)
theorem wpList_delete_o {ops : Array Oper} {rest : List Oper} {o : Oper} {a : Act} {Q : Exit → Act → World → Prop} {t : TypeId} (ht : Try.prog.underlying t = some (.map 3 3))
    (hg : o.guard = none) (m x : Operand) (hop : o.op = Op.call { callee := Callee.builtin Builtin.delete, args := #[m, x], argTypes := #[t, 3] }) (hS : OMap W b f n) (y : Int) (hy : WfZ y) (hm : a.eval m = .map (some b)) (hx : a.eval x = .int .i64 y)
    (h : ∀ V, Hid (OMap V b (putO f y none) n) → Hid (W.grownBy V (some b)) → wpList Try.prog ops Q rest (a.put o.dst (.tuple #[])) V) : wpList Try.prog ops Q (o :: rest) a W := by
  refine wpList_plain hg fun K' hK' => ?_
  obtain ⟨V, hrun, r1, r2⟩ := hS.del ht y hy o.type
  unfold Oper.wp
  simp [execOp, hop, resolve, invoke, builtin, hm, hx, hrun, Result.andThen]
  exact hK' _ _ (h V r1 r2)
end
end Go.Proofs.Yteneglbafngejaa.Gt
