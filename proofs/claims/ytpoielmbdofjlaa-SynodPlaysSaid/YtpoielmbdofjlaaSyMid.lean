/-
  The document's own answer, NPlay: within a round.
-/
import Derived.Test.YtpoielmbdofjlaaSyStep
namespace Go.Proofs.Ytpoielmbdofjlaa.Syn
set_option linter.unusedVariables false
set_option linter.unusedSimpArgs false
open Go.RowKit Mem Gt
open Jump (Gave equalZ_c)

abbrev tO : TypeId := 37
/-- Within a round: the operation lies in box P, its answer (so far) in box P + 1. -/
structure Mid (W : World) (n P : Nat) (o : VO) (x : An) (s : S) (va vo : Value) (outs : List An) (pv : Nat → Value) (w : World) : Prop where
  st : St W n s w va vo outs pv
  op : Known w P tO #[.int .i64 o.1, .int .i64 o.2.1, .int .u16 (o.2.2.1 : Nat), .int .i64 o.2.2.2]
  an : Known w (P + 1) tA #[.int .i64 x.1, .int .u16 (x.2.1 : Nat), .int .i64 x.2.2]
  hi : W.heap.size + 7 ≤ P
  fa : va.ownBlock ≠ some P ∧ va.ownBlock ≠ some (P + 1)
  fo : vo.ownBlock ≠ some P ∧ vo.ownBlock ≠ some (P + 1)
  fp : ∀ b, (pv b).ownBlock ≠ some P ∧ (pv b).ownBlock ≠ some (P + 1)
theorem known_grown {W V : World} {g : Nat} {t : TypeId} {cs : Array Value} {r : Option Nat} (h : Known W g t cs) (hg : W.grownBy V r) (hr : some g ≠ r) : Known V g t cs := (hg.block g h.lt hr).trans h
section
variable {W w w' : World} {n P : Nat} {o : VO} {x y : An} {s : S} {va vo : Value} {outs : List An} {pv : Nat → Value}
theorem Mid.start (h : St W n s w va vo outs pv) : Mid W n w.heap.size o (0, 0, 0) s va vo outs pv ((w.alloc (.cells #[.int .i64 o.1, .int .i64 o.2.1, .int .u16 (o.2.2.1 : Nat), .int .i64 o.2.2.2] tO)).alloc (.cells #[.int .i64 0, .int .u16 0, .int .i64 0] tA)) where
  st := h.later ((below_lit w _).alloc (by simp) _)
  op := (Known.made w tO _).alloc _
  an := by
    have := Known.made (w.alloc (.cells #[.int .i64 o.1, .int .i64 o.2.1, .int .u16 (o.2.2.1 : Nat), .int .i64 o.2.2.2] tO)) tA #[.int .i64 0, .int .u16 0, .int .i64 0]
    rw [show (w.alloc (.cells #[.int .i64 o.1, .int .i64 o.2.1, .int .u16 (o.2.2.1 : Nat), .int .i64 o.2.2.2] tO)).heap.size = w.heap.size + 1 by simp] at this
    exact this
  hi := h.size
  fa := ⟨fun e => by have := (h.pm.acc.lt _ e).2; omega, fun e => by have := (h.pm.acc.lt _ e).2; omega⟩
  fo := ⟨fun e => by have := (h.out.lt _ e).2; omega, fun e => by have := (h.out.lt _ e).2; omega⟩
  fp := fun b => ⟨fun e => by have := ((h.pm.pr b).lt _ e).2; omega, fun e => by have := ((h.pm.pr b).lt _ e).2; omega⟩
theorem Mid.room (h : Mid W n P o x s va vo outs pv w) : P + 2 ≤ w.heap.size := by have := h.an.lt; omega
theorem Mid.later (h : Mid W n P o x s va vo outs pv w) (hb : Below w.heap.size w w') : Mid W n P o x s va vo outs pv w' :=
  ⟨h.st.later hb, h.op.later hb, h.an.later hb, h.hi, h.fa, h.fo, h.fp⟩
theorem Mid.drewN (h : Mid W n P o x s va vo outs pv w) (q : Nat) : Mid W n P o x s va vo outs pv (w.drewN q) := h.later (Mem.below_drewN (Below.refl _ _) q)
/-- The answer is written to. -/
theorem Mid.put (h : Mid W n P o x s va vo outs pv w) (j : Nat) (v : Value) (y : An) (hy : (#[Value.int .i64 x.1, .int .u16 (x.2.1 : Nat), .int .i64 x.2.2] : Array Value).setIfInBounds j v = #[.int .i64 y.1, .int .u16 (y.2.1 : Nat), .int .i64 y.2.2]) :
    Mid W n P o y s va vo outs pv (w.setCell ⟨P + 1, j, none⟩ v) := by
  have hg := grown_set w (P + 1) j v
  have h7 := h.hi
  refine ⟨h.st.keepHi hg (fun q hq => by injection hq with hq; omega) (.inr h.fo.2) (h.st.pm.kept hg (.inr h.fa.2) (fun b => .inr (h.fp b).2)), h.op.off (by show P ≠ P + 1; omega) v, ?_, h.hi, h.fa, h.fo, h.fp⟩
  have := h.an.put j v
  rw [hy] at this
  exact this
theorem Mid.low (h : Mid W n P o x s va vo outs pv w) {r : Nat} (hg : w.grownBy w' (some r)) (hr : r < W.heap.size + 7) {s' : S} (hs : St W n s' w' va vo outs pv) : Mid W n P o x s' va vo outs pv w' := by
  have h7 := h.hi
  exact ⟨hs, known_grown h.op hg (fun e => by injection e with e; omega), known_grown h.an hg (fun e => by injection e with e; omega), h.hi, h.fa, h.fo, h.fp⟩
theorem Mid.vote (h : Mid W n P o x s va vo outs pv w) {va' : Value} {v : Nv} (T : Tab nvE w' (W.heap.size + 7) tN va' (s.acc ++ [v])) (hg : w.grownBy w' va.ownBlock) (hf : va'.ownBlock = va.ownBlock ∨ ∃ g, va'.ownBlock = some g ∧ w.heap.size ≤ g) :
    Mid W n P o x { s with acc := s.acc ++ [v] } va' vo outs pv w' := by
  have hr := h.room
  refine ⟨h.st.vote1 T hg hf, known_grown h.op hg h.fa.1.symm, known_grown h.an hg h.fa.2.symm, h.hi, ?_, h.fo, h.fp⟩
  rcases hf with hf | ⟨g, hf, hl⟩
  · rw [hf]; exact h.fa
  · rw [hf]; exact ⟨fun e => by injection e with e; omega, fun e => by injection e with e; omega⟩
theorem Mid.promise (h : Mid W n P o x s va vo outs pv w) {w1 : World} {b : Nat} (h1 : 1 ≤ b) (h4 : b ≤ 400) {v' : Value} {v : Nv} (T : Tab nvE w1 (W.heap.size + 7) tN v' (s.pr b ++ [v])) (hg : w.grownBy w1 (pv b).ownBlock) (hf : v'.ownBlock = (pv b).ownBlock ∨ ∃ g, v'.ownBlock = some g ∧ w.heap.size ≤ g)
    {ks : List Int} (hk : KeyOk ks) (hm : GMap w' (W.heap.size + 1) nilV (setI (fun x => pv x.toNat) b v') (addK ks b)) (hg2 : w1.grownBy w' (some (W.heap.size + 1))) :
    Mid W n P o x { s with pr := upd s.pr b (s.pr b ++ [v]) } va vo outs (upd pv b v') w' := by
  have hr := h.room
  have h7 := h.hi
  refine ⟨h.st.pr1 h1 h4 T hg hf hk hm hg2, known_grown (known_grown h.op hg (h.fp b).1.symm) hg2 (fun e => by injection e with e; omega), known_grown (known_grown h.an hg (h.fp b).2.symm) hg2 (fun e => by injection e with e; omega), h.hi, h.fa, h.fo, fun c => ?_⟩
  by_cases e : c = b
  · subst e
    rw [upd_same]
    rcases hf with hf | ⟨g, hf, hl⟩
    · rw [hf]; exact h.fp c
    · rw [hf]; exact ⟨fun e => by injection e with e; omega, fun e => by injection e with e; omega⟩
  · rw [upd_other _ _ e]; exact h.fp c
/-- What the walk reads. -/
theorem Mid.o0 (h : Mid W n P o x s va vo outs pv w) : w.cell? ⟨P, 0, none⟩ = some (.int .i64 o.1) := h.op.cell 0
theorem Mid.o1 (h : Mid W n P o x s va vo outs pv w) : w.cell? ⟨P, 1, none⟩ = some (.int .i64 o.2.1) := h.op.cell 1
theorem Mid.o2 (h : Mid W n P o x s va vo outs pv w) : w.cell? ⟨P, 2, none⟩ = some (.int .u16 (o.2.2.1 : Nat)) := h.op.cell 2
theorem Mid.o3 (h : Mid W n P o x s va vo outs pv w) : w.cell? ⟨P, 3, none⟩ = some (.int .i64 o.2.2.2) := h.op.cell 3
theorem Mid.a0 (h : Mid W n P o x s va vo outs pv w) : w.cell? ⟨P + 1, 0, none⟩ = some (.int .i64 x.1) := h.an.cell 0
theorem Mid.a1 (h : Mid W n P o x s va vo outs pv w) : w.cell? ⟨P + 1, 1, none⟩ = some (.int .u16 (x.2.1 : Nat)) := h.an.cell 1
theorem Mid.a2 (h : Mid W n P o x s va vo outs pv w) : w.cell? ⟨P + 1, 2, none⟩ = some (.int .i64 x.2.2) := h.an.cell 2
theorem Mid.fz (h : Mid W n P o x s va vo outs pv w) (j : Nat) : w.frozen? ⟨P + 1, j, none⟩ = false := h.an.free j
/-- Lookups. -/
theorem St.fixedL (h : St W n s w va vo outs pv) {b : Nat} (hb : b ≤ 400) : (Instr.lookup 53 (.map (some (W.heap.size + 5))) (.int .i64 (b : Int)) false).run Try.prog w = .ok (.bool (s.fixed b)) w := by
  obtain ⟨ks, _, hm⟩ := h.mx
  have := hm.look Try.underlying53 (zeroB _) b (wf_of (by unfold Fit; omega))
  simpa using this
theorem St.seenL (h : St W n s w va vo outs pv) {b : Nat} (hb : b ≤ 400) : (Instr.lookup 53 (.map (some (W.heap.size + 4))) (.int .i64 (b : Int)) false).run Try.prog w = .ok (.bool (s.seen b)) w := by
  obtain ⟨ks, _, hm⟩ := h.ms
  have := hm.look Try.underlying53 (zeroB _) b (wf_of (by unfold Fit; omega))
  simpa using this
theorem St.prL (h : St W n s w va vo outs pv) {b : Nat} (hb : b ≤ 400) : (Instr.lookup 51 (.map (some (W.heap.size + 1))) (.int .i64 (b : Int)) false).run Try.prog w = .ok (pv b) w := by
  obtain ⟨ks, _, hm⟩ := h.mp
  have := hm.look Try.underlying51 (zeroN _) b (wf_of (by unfold Fit; omega))
  simpa using this
theorem St.valueC (h : St W n s w va vo outs pv) {b : Nat} (hb : b ≤ 400) (hl : (s.pr b).length ≤ 1000000) :
    Calls Try.prog 19 #[.int .i64 b, .pointer (some ⟨W.heap.size + 6, 0, none⟩), .pointer (some ⟨W.heap.size + 2, 0, none⟩)] w (Gave (.int .i64 (val s b)) w) := by
  obtain ⟨ks, _, hm⟩ := h.mp
  obtain ⟨js, _, hf⟩ := h.mf
  have T := h.pm.pr b
  obtain ⟨A, c, e, _, _⟩ := T.form
  have hr : Reads w A (flat nvE (s.pr b)) := by rw [e] at T; exact T.reads
  exact value_c (W.heap.size + 6) (W.heap.size + 2) (W.heap.size + 3) (W.heap.size + 1) b (s.first b) A (s.pr b).length c (s.pr b) _ _ js ks w hb rfl hl h.b11 h.b10 hf hm (by simp) (by simpa using e) hr
end
end Go.Proofs.Ytpoielmbdofjlaa.Syn
