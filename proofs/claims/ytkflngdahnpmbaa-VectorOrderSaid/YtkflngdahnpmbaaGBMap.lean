/-
  Maps from truth values to integers that a call makes: updated, looked up.
-/
import Derived.Test.YtkflngdahnpmbaaGIMap
namespace Go.Proofs.Ytkflngdahnpmbaa.Gt
set_option linter.unusedVariables false
open Go.RowKit Mem
open Go.Maps (Keyed)

theorem keyBo : Keyed Try.prog 4 := Go.Maps.bool_keyed Try.underlying4
/-- Block b is a map that holds f (0 where nothing was stored). -/
def BMap (W : World) (b : Nat) (N : Nat) (f : Bool → Int) : Prop :=
  ∃ (D : DataW Unit) (n : Nat), n ≤ N ∧ N ≤ 1000 ∧ Maps.Tidy D ∧ W.ownsMap Try.prog 4 (plainElem Try.prog 3) b n D ∧ (∀ x : Bool, D.atKey (.bool x) (.lit (.int .i64 0)) = .lit (.int .i64 (f x)))
section
variable {W V : World} {b N : Nat} {f : Bool → Int}
theorem BMap.made (W : World) : BMap (W.alloc (.map #[] 0)) W.heap.size 0 (fun _ => 0) :=
  ⟨.map [], 0, by omega, by omega, Maps.tidy_empty, World.ownsMap_made W _ _ _, fun x => by simp [DataW.atKey]⟩
set_option maxRecDepth 100000 in
theorem BMap.look (h : BMap W b N f) {t : TypeId} (ht : Try.prog.underlying t = some (.map 4 3)) (x : Bool) :
    (Instr.lookup t (.map (some b)) (.bool x) false).run Try.prog W = .ok (.int .i64 (f x)) W := by
  obtain ⟨D, n, _, _, h2, h3, h4⟩ := h
  obtain ⟨v, ps, hrun, hv⟩ := h3.lookup keyBo ht (intZ W) (plainElem_int Try.underlying3 (show (Lit.int .i64 0).wf = true by decide)) (Go.Maps.keyOf_bool_mk Try.underlying4 x)
  obtain ⟨c, rfl, hc, _⟩ := plainElem_int_inv Try.underlying3 hv
  simp only [Prod.mk.injEq] at hc
  have hat := hc.1
  rw [h4 x] at hat
  injection hat with hat
  injection hat with _ hat
  rw [hrun, hat]
set_option maxRecDepth 100000 in
theorem BMap.upd (h : BMap W b N f) {t : TypeId} (ht : Try.prog.underlying t = some (.map 4 3)) (hN : N < 1000) (x : Bool) (v : Int) (hw : (Lit.int .i64 v).wf = true) :
    ∃ V, (Instr.mapUpdate t (.map (some b)) (.bool x) (.int .i64 v)).run Try.prog W = .ok () V ∧ BMap V b (N + 1) (fun y => if y = x then v else f y) ∧ W.grownBy V (some b) := by
  obtain ⟨D, n, h0, h1, h2, h3, h4⟩ := h
  obtain ⟨V, r1, r2, r3⟩ := h3.update keyBo ht (by unfold maxLen; omega) (Go.Maps.keyOf_bool_mk Try.underlying4 x) (plainElem_int Try.underlying3 hw)
  have hk := keyBo.key (Go.Maps.keyOf_bool_mk (P := Try.prog) Try.underlying4 x)
  refine ⟨V, r1, ⟨_, n + 1, by omega, by omega, h2.put hk _, r2, fun y => ?_⟩, r3⟩
  show _ = DataW.lit (.int .i64 (if y = x then v else f y))
  by_cases e : y = x
  · subst e
    rw [Maps.atKey_put_same h2.isMap hk, if_pos rfl]
  · rw [Maps.atKey_put_other (fun e' => e (by injection e')), h4 y, if_neg e]
end
end Go.Proofs.Ytkflngdahnpmbaa.Gt
