/-
  Package lease: the server in memory: its nodes in block B, itself in B + 1.
-/
import Derived.Test.YteneglbafngejaaLePa
import Derived.Test.YteneglbafngejaaLeMem
import Derived.Deep.Cut
import Derived.Deep.CutRange
import Derived.Deep.CutBlock
import Derived.Deep.DeepCutAuto
import Derived.BigQuiet
namespace Go.Proofs.Yteneglbafngejaa.LeP
set_option linter.unusedVariables false
set_option linter.unusedSimpArgs false
open Go.RowKit Mem Gt Le

abbrev tSv : TypeId := 40
def svC (B m : Nat) (long off now holder exp : Int) : Array Value := #[.int .i64 long, .int .i64 off, .int .i64 now, .int .i64 holder, .int .i64 exp, .slice (some ⟨B, 0, none⟩) m m]
structure Co (B m : Nat) (long off : Int) (p : Rs) (V : World) : Prop where
  sv : Known V (B + 1) tSv (svC B m long off p.now p.holder p.exp)
  nd : ∀ k, k < m → V.cell? ⟨B, k * 3, none⟩ = some (.int .i64 (p.offs k)) ∧ V.cell? ⟨B, k * 3 + 1, none⟩ = some (.int .i64 (p.till k)) ∧ V.cell? ⟨B, k * 3 + 2, none⟩ = some (.bool (p.has k))
  fr : ∀ i, V.frozen? ⟨B, i, none⟩ = false
/-- Only what is the server's has turned. -/
structure Mv (B : Nat) (V V' : World) : Prop where
  os : V'.os = V.os
  tape : V'.tape = V.tape
  output : V'.output = V.output
  size : V.heap.size ≤ V'.heap.size
  block : ∀ k, k < V.heap.size → k ≠ B → k ≠ B + 1 → V'.heap[k]? = V.heap[k]?
section
variable {B m : Nat} {long off : Int} {p q : Rs} {V V' V2 : World}
theorem gr_set (V : World) (g k : Nat) (v : Value) : V.grownBy (V.setCell ⟨g, k, none⟩ v) (some g) :=
  ⟨rfl, rfl, rfl, by simp [World.setCell], fun b hb hr => Below.heap_setCell V ⟨g, k, none⟩ v b (fun e => hr (congrArg some e))⟩
theorem Co.size (h : Co B m long off p V) : B + 2 ≤ V.heap.size := by have := h.sv.lt; omega
theorem Co.later (h : Co B m long off p V) (hb : Below V.heap.size V V') : Co B m long off p V' := by
  have hs := h.size
  have e := hb.block B (by omega)
  refine ⟨h.sv.later hb, fun k hk => ?_, fun i => (World.frozen?_of_block (a := ⟨B, i, none⟩) e).trans (h.fr i)⟩
  obtain ⟨y0, y1, y2⟩ := h.nd k hk
  exact ⟨(World.cell?_of_block (a := ⟨B, k * 3, none⟩) e).trans y0, (World.cell?_of_block (a := ⟨B, k * 3 + 1, none⟩) e).trans y1, (World.cell?_of_block (a := ⟨B, k * 3 + 2, none⟩) e).trans y2⟩
theorem Co.drewN (h : Co B m long off p V) (j : Nat) : Co B m long off p (V.drewN j) := h.later (Mem.below_drewN (Below.refl _ _) j)
theorem Co.away (h : Co B m long off p V) {P j : Nat} {v : Value} (h1 : P ≠ B) (h2 : P ≠ B + 1) : Co B m long off p (V.setCell ⟨P, j, none⟩ v) := by
  refine ⟨h.sv.off (p := ⟨P, j, none⟩) (fun e => h2 e.symm) v, fun k hk => ?_, fun i => by rw [World.frozen?_setCell]; exact h.fr i⟩
  obtain ⟨y0, y1, y2⟩ := h.nd k hk
  refine ⟨?_, ?_, ?_⟩
  · rw [World.cell?_setCell_other _ _ _ _ (fun e => h1 (by injection e with e))]; exact y0
  · rw [World.cell?_setCell_other _ _ _ _ (fun e => h1 (by injection e with e))]; exact y1
  · rw [World.cell?_setCell_other _ _ _ _ (fun e => h1 (by injection e with e))]; exact y2
theorem Co.sv_put (h : Co B m long off p V) {j : Nat} {v : Value} (q : Rs) (e : (svC B m long off p.now p.holder p.exp).setIfInBounds j v = svC B m long off q.now q.holder q.exp) (e1 : q.offs = p.offs) (e2 : q.till = p.till) (e3 : q.has = p.has) : Co B m long off q (V.setCell ⟨B + 1, j, none⟩ v) := by
  refine ⟨by rw [← e]; exact h.sv.put j v, fun k hk => ?_, fun i => by rw [World.frozen?_setCell]; exact h.fr i⟩
  obtain ⟨y0, y1, y2⟩ := h.nd k hk
  rw [e1, e2, e3]
  refine ⟨?_, ?_, ?_⟩
  · rw [World.cell?_setCell_other _ _ _ _ (fun e => by injection e with e; omega)]; exact y0
  · rw [World.cell?_setCell_other _ _ _ _ (fun e => by injection e with e; omega)]; exact y1
  · rw [World.cell?_setCell_other _ _ _ _ (fun e => by injection e with e; omega)]; exact y2
theorem Co.now1 (h : Co B m long off p V) (v : Int) : Co B m long off { p with now := v } (V.setCell ⟨B + 1, 2, none⟩ (.int .i64 v)) := h.sv_put _ rfl rfl rfl rfl
theorem Co.holder1 (h : Co B m long off p V) (v : Int) : Co B m long off { p with holder := v } (V.setCell ⟨B + 1, 3, none⟩ (.int .i64 v)) := h.sv_put _ rfl rfl rfl rfl
theorem Co.exp1 (h : Co B m long off p V) (v : Int) : Co B m long off { p with exp := v } (V.setCell ⟨B + 1, 4, none⟩ (.int .i64 v)) := h.sv_put _ rfl rfl rfl rfl
theorem Co.offs1 (h : Co B m long off p V) {k : Nat} (hk : k < m) (v : Int) : Co B m long off { p with offs := updN p.offs k v } (V.setCell ⟨B, k * 3, none⟩ (.int .i64 v)) := by
  refine ⟨h.sv.off (p := ⟨B, k * 3, none⟩) (fun e => by simp only at e; omega) _, fun j hj => ?_, fun i => by rw [World.frozen?_setCell]; exact h.fr i⟩
  obtain ⟨y0, y1, y2⟩ := h.nd j hj
  refine ⟨?_, ?_, ?_⟩
  · show _ = some (Value.int .i64 (updN p.offs k v j))
    by_cases e : j = k
    · subst e; rw [updN_same]; exact World.cell?_setCell_same _ _ _ y0
    · rw [updN_other _ _ e, World.cell?_setCell_other _ _ _ _ (fun e' => e (by injection e' with _ e'; omega))]; exact y0
  · rw [World.cell?_setCell_other _ _ _ _ (fun e' => by injection e' with _ e'; omega)]; exact y1
  · rw [World.cell?_setCell_other _ _ _ _ (fun e' => by injection e' with _ e'; omega)]; exact y2
theorem Co.till1 (h : Co B m long off p V) {k : Nat} (hk : k < m) (v : Int) : Co B m long off { p with till := updN p.till k v } (V.setCell ⟨B, k * 3 + 1, none⟩ (.int .i64 v)) := by
  refine ⟨h.sv.off (p := ⟨B, k * 3 + 1, none⟩) (fun e => by simp only at e; omega) _, fun j hj => ?_, fun i => by rw [World.frozen?_setCell]; exact h.fr i⟩
  obtain ⟨y0, y1, y2⟩ := h.nd j hj
  refine ⟨?_, ?_, ?_⟩
  · rw [World.cell?_setCell_other _ _ _ _ (fun e' => by injection e' with _ e'; omega)]; exact y0
  · show _ = some (Value.int .i64 (updN p.till k v j))
    by_cases e : j = k
    · subst e; rw [updN_same]; exact World.cell?_setCell_same _ _ _ y1
    · rw [updN_other _ _ e, World.cell?_setCell_other _ _ _ _ (fun e' => e (by injection e' with _ e'; omega))]; exact y1
  · rw [World.cell?_setCell_other _ _ _ _ (fun e' => by injection e' with _ e'; omega)]; exact y2
theorem Co.has1 (h : Co B m long off p V) {k : Nat} (hk : k < m) (v : Bool) : Co B m long off { p with has := updN p.has k v } (V.setCell ⟨B, k * 3 + 2, none⟩ (.bool v)) := by
  refine ⟨h.sv.off (p := ⟨B, k * 3 + 2, none⟩) (fun e => by simp only at e; omega) _, fun j hj => ?_, fun i => by rw [World.frozen?_setCell]; exact h.fr i⟩
  obtain ⟨y0, y1, y2⟩ := h.nd j hj
  refine ⟨?_, ?_, ?_⟩
  · rw [World.cell?_setCell_other _ _ _ _ (fun e' => by injection e' with _ e'; omega)]; exact y0
  · rw [World.cell?_setCell_other _ _ _ _ (fun e' => by injection e' with _ e'; omega)]; exact y1
  · show _ = some (Value.bool (updN p.has k v j))
    by_cases e : j = k
    · subst e; rw [updN_same]; exact World.cell?_setCell_same _ _ _ y2
    · rw [updN_other _ _ e, World.cell?_setCell_other _ _ _ _ (fun e' => e (by injection e' with _ e'; omega))]; exact y2
/-! ### Moves -/
theorem Mv.refl (B : Nat) (V : World) : Mv B V V := ⟨rfl, rfl, rfl, Nat.le_refl _, fun _ _ _ _ => rfl⟩
theorem Mv.below {W : World} (h : Mv B V V') (hb : Below W.heap.size W V) (hB : W.heap.size ≤ B) : Below W.heap.size W V' := by
  have hs := hb.size
  refine ⟨h.os.trans hb.os, h.tape.trans hb.tape, h.output.trans hb.output, Nat.le_trans hs h.size, fun k hk => ?_⟩
  rw [h.block k (by omega) (by omega) (by omega)]
  exact hb.block k hk
theorem Mv.known (h : Mv B V V') {P : Nat} {t : TypeId} {cs : Array Value} (k : Known V P t cs) (h1 : P ≠ B) (h2 : P ≠ B + 1) : Known V' P t cs := (h.block P k.lt h1 h2).trans k
theorem Mv.later (h : Mv B V V') (hb : Below V'.heap.size V' V2) : Mv B V V2 :=
  ⟨hb.os.trans h.os, hb.tape.trans h.tape, hb.output.trans h.output, Nat.le_trans h.size hb.size, fun k hk h1 h2 => by rw [hb.block k (Nat.lt_of_lt_of_le hk h.size)]; exact h.block k hk h1 h2⟩
theorem Mv.drewN (h : Mv B V V') (j : Nat) : Mv B V (V'.drewN j) := h.later (Mem.below_drewN (Below.refl _ _) j)
theorem Mv.low (h : Mv B V V') (o : Obj) : Mv B V (V'.alloc o) := h.later (low_lit _ _)
theorem Mv.trans (h : Mv B V V') (h2 : Mv B V' V2) : Mv B V V2 :=
  ⟨h2.os.trans h.os, h2.tape.trans h.tape, h2.output.trans h.output, Nat.le_trans h.size h2.size, fun k hk h1 h3 => by rw [h2.block k (Nat.lt_of_lt_of_le hk h.size) h1 h3]; exact h.block k hk h1 h3⟩
theorem Mv.set (h : Mv B V V') {r : Nat} (hr : r = B ∨ r = B + 1 ∨ V.heap.size ≤ r) (j : Nat) (v : Value) : Mv B V (V'.setCell ⟨r, j, none⟩ v) := by
  have hg := gr_set V' r j v
  exact ⟨hg.os.trans h.os, hg.tape.trans h.tape, hg.output.trans h.output, Nat.le_trans h.size hg.size, fun k hk h1 h3 => by
    rw [hg.block k (Nat.lt_of_lt_of_le hk h.size) (fun e => by injection e with e; omega)]
    exact h.block k hk h1 h3⟩
end
end Go.Proofs.Yteneglbafngejaa.LeP
