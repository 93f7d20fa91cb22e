/-
  Maps from integers to integers that a call makes: looked up (with ok too), updated, counted; two held against each other.
-/
import Derived.Test.YtkflngdahnpmbaaGMap
import Derived.Lib.SlMapEqual
import Derived.Lib.SlKeysI
import Derived.Maps.RangeWalk
namespace Go.Proofs.Ytkflngdahnpmbaa.Gt
set_option linter.unusedVariables false
open Go.RowKit Mem
open Go.Maps (Keyed)

/-- Block b is a map that holds f at each number (0 where nothing was stored); ks: the keys, each once. -/
def IMap (W : World) (b : Nat) (f : Int → Int) (ks : List Int) : Prop :=
  ∃ (D : DataW Unit) (n : Nat), n < maxLen ∧ n ≤ 1000000 ∧ Maps.Tidy D ∧ W.ownsMap Try.prog 3 (plainElem Try.prog 3) b n D ∧ (∀ x : Int, (Lit.int .i64 x).wf = true → D.atKey (.int .i64 x) (.lit (.int .i64 0)) = .lit (.int .i64 (f x))) ∧
    (∀ x : Int, (Lit.int .i64 x).wf = true → Maps.has D (.int .i64 x) = decide (x ∈ ks)) ∧ Maps.size D = ks.length ∧ n = ks.length
theorem intZ (w : World) : (zeroValue 3).run Try.prog w = .ok (.int .i64 0) w := by kernel_rfl
def setZ (f : Int → Int) (x : Int) (v : Int) : Int → Int := fun y => if y = x then v else f y
section
variable {W V : World} {b : Nat} {f : Int → Int} {ks : List Int}
theorem IMap.made (W : World) : IMap (W.alloc (.map #[] 0)) W.heap.size (fun _ => 0) [] :=
  ⟨.map [], 0, by simp [maxLen], by omega, Maps.tidy_empty, World.ownsMap_made W _ _ _, fun x _ => by simp [DataW.atKey], fun x _ => by simp [Maps.has_eq], rfl, rfl⟩
theorem IMap.lt (h : IMap W b f ks) : b < W.heap.size := by obtain ⟨D, n, _, _, _, h1, _⟩ := h; exact h1.lt
theorem IMap.kept {row : Option Nat} (h : IMap W b f ks) (hg : W.grownBy V row) (hne : some b ≠ row) : IMap V b f ks := by
  obtain ⟨D, n, h0, h1, h2, h3, h4⟩ := h; exact ⟨D, n, h0, h1, h2, h3.kept hg hne, h4⟩
theorem IMap.later (h : IMap W b f ks) (hb : Below W.heap.size W V) : IMap V b f ks :=
  h.kept (row := none) ⟨hb.os, hb.tape, hb.output, hb.size, fun k hk _ => hb.block k hk⟩ (by simp)
theorem IMap.alloc (h : IMap W b f ks) (o : Obj) : IMap (W.alloc o) b f ks := h.later ((Below.refl _ _).alloc (Nat.le_refl _) _)
theorem IMap.drewN (h : IMap W b f ks) (n : Nat) : IMap (W.drewN n) b f ks := h
theorem IMap.congr {g : Int → Int} (h : IMap W b f ks) (hg : ∀ x, f x = g x) : IMap W b g ks := by
  obtain rfl : f = g := funext hg
  exact h
set_option maxRecDepth 100000 in
theorem IMap.look (h : IMap W b f ks) {t : TypeId} (ht : Try.prog.underlying t = some (.map 3 3)) (x : Int) (hx : (Lit.int .i64 x).wf = true) :
    (Instr.lookup t (.map (some b)) (.int .i64 x) false).run Try.prog W = .ok (.int .i64 (f x)) W := by
  obtain ⟨D, n, _, _, h2, h3, h4, _⟩ := h
  obtain ⟨c, hrun, hat, _⟩ := h3.lookup_int keyI ht Try.underlying3 (intZ W) (Go.Maps.keyOf_int_mk Try.underlying3 hx)
  rw [hrun]
  rw [h4 x hx] at hat
  injection hat with hat
  injection hat with _ hat
  rw [hat]
set_option maxRecDepth 100000 in
theorem IMap.look2 (h : IMap W b f ks) {t : TypeId} (ht : Try.prog.underlying t = some (.map 3 3)) (x : Int) (hx : (Lit.int .i64 x).wf = true) :
    (Instr.lookup t (.map (some b)) (.int .i64 x) true).run Try.prog W = .ok (.tuple #[.int .i64 (f x), .bool (decide (x ∈ ks))]) W := by
  obtain ⟨D, n, _, _, h2, h3, h4, h5, _⟩ := h
  obtain ⟨v, ps, hrun, hv⟩ := h3.look_ok keyI ht (intZ W) (plainElem_int Try.underlying3 (show (Lit.int .i64 0).wf = true by decide)) (Go.Maps.keyOf_int_mk Try.underlying3 hx)
  obtain ⟨c, rfl, hc, _⟩ := plainElem_int_inv Try.underlying3 hv
  simp only [Prod.mk.injEq] at hc
  have hat := hc.1
  rw [h4 x hx] at hat
  injection hat with hat
  injection hat with _ hat
  rw [hrun, hat, h5 x hx]
set_option maxRecDepth 100000 in
theorem IMap.upd (h : IMap W b f ks) {t : TypeId} (ht : Try.prog.underlying t = some (.map 3 3)) (hn : ks.length < 1000000) (x : Int) (hx : (Lit.int .i64 x).wf = true) (v : Int) (hw : (Lit.int .i64 v).wf = true) :
    ∃ V, (Instr.mapUpdate t (.map (some b)) (.int .i64 x) (.int .i64 v)).run Try.prog W = .ok () V ∧ IMap V b (setZ f x v) (addK ks x) ∧ W.grownBy V (some b) := by
  obtain ⟨D, n, h0, h1, h2, h3, h4, h5, h6, h7⟩ := h
  obtain ⟨V, r1, r2, r3⟩ := h3.update keyI ht h0 (Go.Maps.keyOf_int_mk Try.underlying3 hx) (plainElem_int Try.underlying3 hw)
  have hk := keyI.key (Go.Maps.keyOf_int_mk (P := Try.prog) Try.underlying3 hx)
  have hsize : Maps.size (D.put (.int .i64 x) (.lit (.int .i64 v))) = (addK ks x).length := by
    rw [Maps.size_put h2, h5 x hx, h6]
    unfold addK
    by_cases e : x ∈ ks <;> simp [e]
  have hlen : (addK ks x).length ≤ ks.length + 1 := by
    unfold addK
    split
    · omega
    · simp
  have r2' : V.ownsMap Try.prog 3 (plainElem Try.prog 3) b (addK ks x).length (D.put (.int .i64 x) (.lit (.int .i64 v))) := by
    obtain ⟨es, clock, q1, q2, q3, q4⟩ := r2
    refine ⟨es, clock, q1, q2, ?_, q4⟩
    have e1 : es.size = Maps.size (D.put (.int .i64 x) (.lit (.int .i64 v))) := by
      rw [q4]
      show es.size = ((es.toList.map _).foldr DataW.insert []).length
      rw [Go.length_sorted]; simp
    omega
  refine ⟨V, r1, ⟨_, _, by unfold maxLen; omega, by omega, h2.put hk _, r2', fun y hy => ?_, fun y hy => ?_, hsize, rfl⟩, r3⟩
  · by_cases e : y = x
    · subst e
      rw [Maps.atKey_put_same h2.isMap hk]; unfold setZ; rw [if_pos rfl]
    · rw [Maps.atKey_put_other (fun e' => e (by injection e')), h4 y hy]; unfold setZ; rw [if_neg e]
  · by_cases e : y = x
    · subst e
      rw [Maps.has_put_same h2.isMap hk]
      exact (decide_eq_true (mem_addK.2 (.inl rfl))).symm
    · rw [Maps.has_put_other (fun e' => e (by injection e')), h5 y hy]
      exact decide_eq_decide.2 ⟨fun h => mem_addK.2 (.inr h), fun h => (mem_addK.1 h).resolve_left e⟩
theorem IMap.len (h : IMap W b f ks) {t : TypeId} (ht : Try.prog.underlying t = some (.map 3 3)) (ty : TypeId) (n : Nat) (hn : ks.length = n) : (Builtin.len_ #[t] ty #[.map (some b)]).run Try.prog W = .ok (.int .i64 (n : Int)) W := by
  obtain ⟨D, m, _, _, h2, h3, h4, h5, h6, _⟩ := h
  rw [← hn, ← h6]
  exact h3.len ht _
theorem wpList_update_z {ops : Array Oper} {rest : List Oper} {o : Oper} {a : Act} {Q : Exit → Act → World → Prop} {t : TypeId} (ht : Try.prog.underlying t = some (.map 3 3))
    (hg : o.guard = none) (m x v : Operand) (hop : o.op = Op.mapUpdate t m x v) (hS : IMap W b f ks) (hn : ks.length < 1000000) (y : Int) (hy : (Lit.int .i64 y).wf = true) (hm : a.eval m = .map (some b)) (hx : a.eval x = .int .i64 y) (u : Int) (hu : (Lit.int .i64 u).wf = true) (hv : a.eval v = .int .i64 u)
    (h : ∀ V, Hid (IMap V b (setZ f y u) (addK ks y)) → Hid (W.grownBy V (some b)) → wpList Try.prog ops Q rest (a.put o.dst undef) V) : wpList Try.prog ops Q (o :: rest) a W := by
  refine wpList_plain hg fun K' hK' => ?_
  obtain ⟨V, hrun, r1, r2⟩ := hS.upd ht hn y hy u hu
  unfold Oper.wp
  simp [execOp, hop, hm, hx, hv, hrun, Result.andThen]
  exact hK' _ _ (h V r1 r2)
/-- The entries of such a map. -/
theorem IMap.entry {D : DataW Unit} {n : Nat} (hown : W.ownsMap Try.prog 3 (plainElem Try.prog 3) b n D) (hD : Maps.Tidy D) (h4 : ∀ x : Int, (Lit.int .i64 x).wf = true → D.atKey (.int .i64 x) (.lit (.int .i64 0)) = .lit (.int .i64 (f x)))
    (h5 : ∀ x : Int, (Lit.int .i64 x).wf = true → Maps.has D (.int .i64 x) = decide (x ∈ ks)) : ∀ p ∈ Lib.entriesD D, ∃ x, p.1 = .int .i64 x ∧ (Lit.int .i64 x).wf = true ∧ x ∈ ks ∧ p.2 = .lit (.int .i64 (f x)) := by
  obtain ⟨es, hE, hpw, hkl⟩ := hown.entries keyI
  obtain ⟨es', hD', hko⟩ := hown.keysOf
  obtain rfl : es = es' := by rw [hE] at hD'; simpa using hD'
  subst hE
  intro p hp
  obtain ⟨v, hv⟩ := hko p hp
  obtain ⟨x, _, hx, hw⟩ := Maps.keyOf_i64 Try.underlying3 hv
  have hh : Maps.has (DataW.map es) p.1 = true := List.any_eq_true.2 ⟨p, hp, WideAt.sameKey_self (hkl p hp)⟩
  have hat := WideAt.atKey_mem (.lit (.int .i64 0)) (hkl p hp) hpw hp
  rw [hx] at hh hat
  rw [h5 x hw] at hh
  rw [h4 x hw] at hat
  exact ⟨x, hx, hw, of_decide_eq_true hh, hat.symm⟩
/-- Alike. -/
theorem IMap.alike {V : World} {c : Nat} {g : Int → Int} {js : List Int} (eqd : DataW Unit → DataW Unit → Bool) (hd : ∀ d, eqd d d = true) {D E : DataW Unit} {n m : Nat} (o1 : W.ownsMap Try.prog 3 (plainElem Try.prog 3) b n D) (t1 : Maps.Tidy D)
    (a1 : ∀ x : Int, (Lit.int .i64 x).wf = true → D.atKey (.int .i64 x) (.lit (.int .i64 0)) = .lit (.int .i64 (f x))) (h1 : ∀ x : Int, (Lit.int .i64 x).wf = true → Maps.has D (.int .i64 x) = decide (x ∈ ks)) (s1 : Maps.size D = ks.length)
    (a2 : ∀ x : Int, (Lit.int .i64 x).wf = true → E.atKey (.int .i64 x) (.lit (.int .i64 0)) = .lit (.int .i64 (g x))) (h2 : ∀ x : Int, (Lit.int .i64 x).wf = true → Maps.has E (.int .i64 x) = decide (x ∈ js)) (s2 : Maps.size E = js.length)
    (hl : ks.length = js.length) (hk : ∀ x ∈ ks, x ∈ js ∧ f x = g x) : Lib.equalFuncD eqd D E = true := by
  unfold Lib.equalFuncD
  rw [Bool.and_eq_true, decide_eq_true_eq]
  refine ⟨by omega, List.all_eq_true.2 fun p hp => ?_⟩
  obtain ⟨x, hx, hw, hm, hv⟩ := IMap.entry o1 t1 a1 h1 p hp
  obtain ⟨q1, q2⟩ := hk x hm
  unfold Lib.goodD
  have hh : Maps.has E p.1 = true := by rw [hx, h2 x hw]; exact decide_eq_true q1
  rw [hh, Bool.true_and, Maps.atKey_indep hh .nil (.lit (.int .i64 0)), hx, a2 x hw, hv, q2]
  exact hd _
end
end Go.Proofs.Ytkflngdahnpmbaa.Gt
