/-
  Maps from pairs of integers to integers that a call makes: looked up (with ok), updated.
-/
import Derived.Test.YthebilmeehnkpaaGMap
import Derived.WideKeyPair
import Derived.Maps.RangeWalk
namespace Go.Proofs.Ythebilmeehnkpaa.Gt
set_option linter.unusedVariables false
open Go.RowKit Mem
open Go.Maps (Keyed)
open Go.WideMaps (ArrKey keyOf_pair)

theorem arr2 : ArrKey Try.prog 73 3 2 := ⟨by kernel_rfl, by kernel_rfl, by kernel_rfl, by kernel_rfl⟩
theorem key2 : Keyed Try.prog 73 := Go.Maps.Keyed.of_law arr2.law
theorem types1 : ∃ m, Try.prog.types.size = m + 1 := by
  have h : decide (0 < Try.prog.types.size) = true := by kernel_rfl
  have := of_decide_eq_true h
  exact ⟨Try.prog.types.size - 1, by omega⟩
/-- How a key reads. -/
def kk (x y : Int) : Lit := .string (keyBytes [.int .i64 x, .int .i64 y])
def kv (x y : Int) : Value := .agg #[.int .i64 x, .int .i64 y]
def WfI (x : Int) : Prop := (Lit.int .i64 x).wf = true
theorem kk_of {x y : Int} (hx : WfI x) (hy : WfI y) : keyOf Try.prog 73 (kv x y) = some (kk x y) := keyOf_pair arr2 Try.underlying3 types1 hx hy
theorem kk_inj {x y x' y' : Int} (hx : WfI x) (hy : WfI y) (hx' : WfI x') (hy' : WfI y') (h : kk x y = kk x' y') : x = x' ∧ y = y' := by
  have h1 := kk_of hx hy
  have h2 := kk_of hx' hy'
  rw [h] at h1
  have h3 := key2.inj h1 h2
  unfold kv at h3
  injection h3 with h3
  have h4 := congrArg Array.toList h3
  simp at h4
  exact h4
/-- Block b is a map that holds f at each pair (0 where nothing was stored); ks: the keys, each once. -/
def KMap (W : World) (b : Nat) (f : Int → Int → Int) (ks : List (Int × Int)) : Prop :=
  ∃ (D : DataW Unit) (n : Nat), n < maxLen ∧ n ≤ 1000000 ∧ Maps.Tidy D ∧ W.ownsMap Try.prog 73 (plainElem Try.prog 3) b n D ∧ (∀ x y : Int, WfI x → WfI y → D.atKey (kk x y) (.lit (.int .i64 0)) = .lit (.int .i64 (f x y))) ∧
    (∀ x y : Int, WfI x → WfI y → Maps.has D (kk x y) = decide ((x, y) ∈ ks)) ∧ Maps.size D = ks.length ∧ n = ks.length
theorem intZ2 (w : World) : (zeroValue 3).run Try.prog w = .ok (.int .i64 0) w := by kernel_rfl
def setK (f : Int → Int → Int) (x y : Int) (v : Int) : Int → Int → Int := fun a b => if a = x ∧ b = y then v else f a b
def addP (ks : List (Int × Int)) (p : Int × Int) : List (Int × Int) := if p ∈ ks then ks else ks ++ [p]
theorem mem_addP {ks : List (Int × Int)} {p q : Int × Int} : q ∈ addP ks p ↔ q = p ∨ q ∈ ks := by
  unfold addP
  split
  · rename_i h; exact ⟨.inr, fun h' => h'.elim (fun e => e ▸ h) id⟩
  · simp [or_comm]
theorem addP_len (ks : List (Int × Int)) (p : Int × Int) : (addP ks p).length ≤ ks.length + 1 := by
  unfold addP
  split
  · omega
  · simp
section
variable {W V : World} {b : Nat} {f : Int → Int → Int} {ks : List (Int × Int)}
theorem KMap.made (W : World) : KMap (W.alloc (.map #[] 0)) W.heap.size (fun _ _ => 0) [] :=
  ⟨.map [], 0, by simp [maxLen], by omega, Maps.tidy_empty, World.ownsMap_made W _ _ _, fun x y _ _ => by simp [DataW.atKey], fun x y _ _ => by simp [Maps.has_eq], rfl, rfl⟩
theorem KMap.lt (h : KMap W b f ks) : b < W.heap.size := by obtain ⟨D, n, _, _, _, h1, _⟩ := h; exact h1.lt
theorem KMap.kept {row : Option Nat} (h : KMap W b f ks) (hg : W.grownBy V row) (hne : some b ≠ row) : KMap V b f ks := by
  obtain ⟨D, n, h0, h1, h2, h3, h4⟩ := h; exact ⟨D, n, h0, h1, h2, h3.kept hg hne, h4⟩
theorem KMap.later (h : KMap W b f ks) (hb : Below W.heap.size W V) : KMap V b f ks :=
  h.kept (row := none) ⟨hb.os, hb.tape, hb.output, hb.size, fun k hk _ => hb.block k hk⟩ (by simp)
theorem KMap.alloc (h : KMap W b f ks) (o : Obj) : KMap (W.alloc o) b f ks := h.later ((Below.refl _ _).alloc (Nat.le_refl _) _)
theorem KMap.drewN (h : KMap W b f ks) (n : Nat) : KMap (W.drewN n) b f ks := h
set_option maxRecDepth 100000 in
theorem KMap.look2 (h : KMap W b f ks) {t : TypeId} (ht : Try.prog.underlying t = some (.map 73 3)) (x y : Int) (hx : WfI x) (hy : WfI y) :
    (Instr.lookup t (.map (some b)) (kv x y) true).run Try.prog W = .ok (.tuple #[.int .i64 (f x y), .bool (decide ((x, y) ∈ ks))]) W := by
  obtain ⟨D, n, _, _, h2, h3, h4, h5, _⟩ := h
  obtain ⟨v, ps, hrun, hv⟩ := h3.look_ok key2 ht (intZ2 W) (plainElem_int Try.underlying3 (show (Lit.int .i64 0).wf = true by decide)) (kk_of hx hy)
  obtain ⟨c, rfl, hc, _⟩ := plainElem_int_inv Try.underlying3 hv
  simp only [Prod.mk.injEq] at hc
  have hat := hc.1
  rw [h4 x y hx hy] at hat
  injection hat with hat
  injection hat with _ hat
  rw [hrun, hat, h5 x y hx hy]
set_option maxRecDepth 100000 in
theorem KMap.upd (h : KMap W b f ks) {t : TypeId} (ht : Try.prog.underlying t = some (.map 73 3)) (hn : ks.length < 1000000) (x y : Int) (hx : WfI x) (hy : WfI y) (v : Int) (hw : (Lit.int .i64 v).wf = true) :
    ∃ V, (Instr.mapUpdate t (.map (some b)) (kv x y) (.int .i64 v)).run Try.prog W = .ok () V ∧ KMap V b (setK f x y v) (addP ks (x, y)) ∧ W.grownBy V (some b) := by
  obtain ⟨D, n, h0, h1, h2, h3, h4, h5, h6, h7⟩ := h
  obtain ⟨V, r1, r2, r3⟩ := h3.update key2 ht h0 (kk_of hx hy) (plainElem_int Try.underlying3 hw)
  have hk := key2.key (kk_of hx hy)
  have hsize : Maps.size (D.put (kk x y) (.lit (.int .i64 v))) = (addP ks (x, y)).length := by
    rw [Maps.size_put h2, h5 x y hx hy, h6]
    unfold addP
    by_cases e : (x, y) ∈ ks <;> simp [e]
  have hlen := addP_len ks (x, y)
  have r2' : V.ownsMap Try.prog 73 (plainElem Try.prog 3) b (addP ks (x, y)).length (D.put (kk x y) (.lit (.int .i64 v))) := by
    obtain ⟨es, clock, q1, q2, q3, q4⟩ := r2
    refine ⟨es, clock, q1, q2, ?_, q4⟩
    have e1 : es.size = Maps.size (D.put (kk x y) (.lit (.int .i64 v))) := by
      rw [q4]
      show es.size = ((es.toList.map _).foldr DataW.insert []).length
      rw [Go.length_sorted]; simp
    omega
  refine ⟨V, r1, ⟨_, _, by unfold maxLen; omega, by omega, h2.put hk _, r2', fun x' y' hx' hy' => ?_, fun x' y' hx' hy' => ?_, hsize, rfl⟩, r3⟩
  · by_cases e : x' = x ∧ y' = y
    · obtain ⟨rfl, rfl⟩ := e
      rw [Maps.atKey_put_same h2.isMap hk]; unfold setK; rw [if_pos ⟨rfl, rfl⟩]
    · rw [Maps.atKey_put_other (fun e' => e (by first | exact kk_inj hx' hy' hx hy e' | exact kk_inj hx' hy' hx hy e'.symm)), h4 x' y' hx' hy']; unfold setK; rw [if_neg e]
  · by_cases e : x' = x ∧ y' = y
    · obtain ⟨rfl, rfl⟩ := e
      rw [Maps.has_put_same h2.isMap hk]
      exact (decide_eq_true (mem_addP.2 (.inl rfl))).symm
    · rw [Maps.has_put_other (fun e' => e (by first | exact kk_inj hx' hy' hx hy e' | exact kk_inj hx' hy' hx hy e'.symm)), h5 x' y' hx' hy']
      exact decide_eq_decide.2 ⟨fun h => mem_addP.2 (.inr h), fun h => (mem_addP.1 h).resolve_left (fun e' => e (by simpa using e'))⟩
theorem wpList_update_k {ops : Array Oper} {rest : List Oper} {o : Oper} {a : Act} {Q : Exit → Act → World → Prop} {t : TypeId} (ht : Try.prog.underlying t = some (.map 73 3))
    (hg : o.guard = none) (m x v : Operand) (hop : o.op = Op.mapUpdate t m x v) (hS : KMap W b f ks) (hn : ks.length < 1000000) (y z : Int) (hy : WfI y) (hz : WfI z) (hm : a.eval m = .map (some b)) (hx : a.eval x = kv y z) (u : Int) (hu : (Lit.int .i64 u).wf = true) (hv : a.eval v = .int .i64 u)
    (h : ∀ V, Hid (KMap V b (setK f y z u) (addP ks (y, z))) → Hid (W.grownBy V (some b)) → wpList Try.prog ops Q rest (a.put o.dst undef) V) : wpList Try.prog ops Q (o :: rest) a W := by
  refine wpList_plain hg fun K' hK' => ?_
  obtain ⟨V, hrun, r1, r2⟩ := hS.upd ht hn y z hy hz u hu
  unfold Oper.wp
  simp [execOp, hop, hm, hx, hv, hrun, Result.andThen]
  exact hK' _ _ (h V r1 r2)
end
end Go.Proofs.Ythebilmeehnkpaa.Gt
