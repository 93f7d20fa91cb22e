/-
  Maps with integer keys and whatever values, that a call makes: looked up, updated, counted.
-/
import Derived.Test.YtdkgclgccicbeaaRow
import Derived.Maps.OwnOps
import Derived.Maps.OwnSet
import Derived.Maps.Views
namespace Go.Proofs.Ytdkgclgccicbeaa.Gt
set_option linter.unusedVariables false
open Go.RowKit Mem
open Go.Maps (Keyed)

theorem keyI : Keyed Try.prog 3 := Go.Maps.int_keyed Try.underlying3
/-- How a value reads: as itself. -/
def rdV (v : Value) : Option (DataW Value × List MemPlace) := some (.held v, [])
def setI (f : Int → Value) (x : Int) (v : Value) : Int → Value := fun y => if y = x then v else f y
theorem setI_same (f : Int → Value) (x : Int) (v : Value) : setI f x v x = v := if_pos rfl
theorem setI_other (f : Int → Value) {x y : Int} (v : Value) (h : y ≠ x) : setI f x v y = f y := if_neg h
def addK (ks : List Int) (x : Int) : List Int := if x ∈ ks then ks else ks ++ [x]
theorem mem_addK {ks : List Int} {x y : Int} : y ∈ addK ks x ↔ y = x ∨ y ∈ ks := by
  unfold addK
  split
  · rename_i h; exact ⟨.inr, fun h' => h'.elim (fun e => e ▸ h) id⟩
  · simp [or_comm]
/-- Block b is a map that holds f at each number (z where nothing was stored); ks: the keys, each once. -/
def GMap (W : World) (b : Nat) (z : Value) (f : Int → Value) (ks : List Int) : Prop :=
  ∃ (D : DataW Value) (n : Nat), n < maxLen ∧ n ≤ 1000000 ∧ Maps.Tidy D ∧ W.ownsMap Try.prog 3 rdV b n D ∧ (∀ x : Int, (Lit.int .i64 x).wf = true → D.atKey (.int .i64 x) (.held z) = .held (f x)) ∧
    (∀ x : Int, (Lit.int .i64 x).wf = true → Maps.has D (.int .i64 x) = decide (x ∈ ks)) ∧ Maps.size D = ks.length ∧ n = ks.length
section
variable {W V : World} {b : Nat} {z : Value} {f : Int → Value} {ks : List Int}
theorem GMap.made (W : World) (z : Value) : GMap (W.alloc (.map #[] 0)) W.heap.size z (fun _ => z) [] :=
  ⟨.map [], 0, by simp [maxLen], by omega, Maps.tidy_empty, World.ownsMap_made W _ _ _, fun x _ => by simp [DataW.atKey], fun x _ => by simp [Maps.has_eq], rfl, rfl⟩
theorem GMap.lt (h : GMap W b z f ks) : b < W.heap.size := by obtain ⟨D, n, _, _, _, h1, _⟩ := h; exact h1.lt
theorem GMap.kept {row : Option Nat} (h : GMap W b z f ks) (hg : W.grownBy V row) (hne : some b ≠ row) : GMap V b z f ks := by
  obtain ⟨D, n, h0, h1, h2, h3, h4⟩ := h; exact ⟨D, n, h0, h1, h2, h3.kept hg hne, h4⟩
theorem GMap.later (h : GMap W b z f ks) (hb : Below W.heap.size W V) : GMap V b z f ks :=
  h.kept (row := none) ⟨hb.os, hb.tape, hb.output, hb.size, fun k hk _ => hb.block k hk⟩ (by simp)
theorem GMap.alloc (h : GMap W b z f ks) (o : Obj) : GMap (W.alloc o) b z f ks := h.later ((Below.refl _ _).alloc (Nat.le_refl _) _)
theorem GMap.drew (h : GMap W b z f ks) : GMap W.drew b z f ks := h
theorem GMap.drewN (h : GMap W b z f ks) (n : Nat) : GMap (W.drewN n) b z f ks := h
theorem GMap.setCell (h : GMap W b z f ks) {a : Addr} (ha : b ≠ a.block) (u : Value) : GMap (W.setCell a u) b z f ks := by
  obtain ⟨D, n, h0, h1, h2, h3, h4⟩ := h; exact ⟨D, n, h0, h1, h2, h3.setCell ha u, h4⟩
theorem GMap.congr {g : Int → Value} (h : GMap W b z f ks) (hg : ∀ x, f x = g x) : GMap W b z g ks := by
  obtain rfl : f = g := funext hg
  exact h
set_option maxRecDepth 100000 in
theorem GMap.look (h : GMap W b z f ks) {t e : TypeId} (ht : Try.prog.underlying t = some (.map 3 e)) (hz : (zeroValue e).run Try.prog W = .ok z W) (x : Int) (hx : (Lit.int .i64 x).wf = true) :
    (Instr.lookup t (.map (some b)) (.int .i64 x) false).run Try.prog W = .ok (f x) W := by
  obtain ⟨D, n, _, _, h2, h3, h4, _⟩ := h
  obtain ⟨v, ps, hrun, hv⟩ := h3.lookup keyI ht hz (show rdV z = some (.held z, []) from rfl) (Go.Maps.keyOf_int_mk Try.underlying3 hx)
  rw [hrun]
  rw [h4 x hx] at hv
  unfold rdV at hv
  injection hv with hv
  injection hv with hv _
  injection hv with hv
  rw [hv]
set_option maxRecDepth 100000 in
theorem GMap.upd (h : GMap W b z f ks) {t e : TypeId} (ht : Try.prog.underlying t = some (.map 3 e)) (hn : ks.length < 1000000) (x : Int) (hx : (Lit.int .i64 x).wf = true) (v : Value) :
    ∃ V, (Instr.mapUpdate t (.map (some b)) (.int .i64 x) v).run Try.prog W = .ok () V ∧ GMap V b z (setI f x v) (addK ks x) ∧ W.grownBy V (some b) := by
  obtain ⟨D, n, h0, h1, h2, h3, h4, h5, h6, h7⟩ := h
  obtain ⟨V, r1, r2, r3⟩ := h3.update keyI ht h0 (Go.Maps.keyOf_int_mk Try.underlying3 hx) (show rdV v = some (.held v, []) from rfl)
  have hk := keyI.key (Go.Maps.keyOf_int_mk (P := Try.prog) Try.underlying3 hx)
  have hsize : Maps.size (D.put (.int .i64 x) (.held v)) = (addK ks x).length := by
    rw [Maps.size_put h2, h5 x hx, h6]
    unfold addK
    by_cases e : x ∈ ks <;> simp [e]
  have hlen : (addK ks x).length ≤ ks.length + 1 := by
    unfold addK
    split
    · omega
    · simp
  have r2' : V.ownsMap Try.prog 3 rdV b (addK ks x).length (D.put (.int .i64 x) (.held v)) := by
    obtain ⟨es, clock, q1, q2, q3, q4⟩ := r2
    refine ⟨es, clock, q1, q2, ?_, q4⟩
    have e1 : es.size = Maps.size (D.put (.int .i64 x) (.held v)) := by
      rw [q4]
      show es.size = ((es.toList.map _).foldr DataW.insert []).length
      rw [Go.length_sorted]; simp
    omega
  refine ⟨V, r1, ⟨_, _, by unfold maxLen; omega, by omega, h2.put hk _, r2', fun y hy => ?_, fun y hy => ?_, hsize, rfl⟩, r3⟩
  · by_cases e : y = x
    · subst e
      rw [Maps.atKey_put_same h2.isMap hk, setI_same]
    · rw [Maps.atKey_put_other (fun e' => e (by injection e')), h4 y hy, setI_other _ _ e]
  · by_cases e : y = x
    · subst e
      rw [Maps.has_put_same h2.isMap hk]
      exact (decide_eq_true (mem_addK.2 (.inl rfl))).symm
    · rw [Maps.has_put_other (fun e' => e (by injection e')), h5 y hy]
      exact decide_eq_decide.2 ⟨fun h => mem_addK.2 (.inr h), fun h => (mem_addK.1 h).resolve_left e⟩
theorem GMap.len (h : GMap W b z f ks) {t e : TypeId} (ht : Try.prog.underlying t = some (.map 3 e)) (ty : TypeId) (n : Nat) (hn : ks.length = n) : (Builtin.len_ #[t] ty #[.map (some b)]).run Try.prog W = .ok (.int .i64 (n : Int)) W := by
  obtain ⟨D, m, _, _, h2, h3, h4, h5, h6, _⟩ := h
  rw [← hn, ← h6]
  exact h3.len ht _
theorem wpList_lookup_m {ops : Array Oper} {rest : List Oper} {o : Oper} {a : Act} {Q : Exit → Act → World → Prop} {t e : TypeId} (ht : Try.prog.underlying t = some (.map 3 e)) (hz : (zeroValue e).run Try.prog W = .ok z W)
    (hg : o.guard = none) (m x : Operand) (hop : o.op = Op.lookup t m x false) (hS : GMap W b z f ks) (y : Int) (hy : (Lit.int .i64 y).wf = true) (hm : a.eval m = .map (some b)) (hx : a.eval x = .int .i64 y) (c : Value) (hc : f y = c)
    (h : wpList Try.prog ops Q rest (a.put o.dst c) W) : wpList Try.prog ops Q (o :: rest) a W := by
  subst hc
  refine wpList_plain hg fun K' hK' => ?_
  have hrun := hS.look ht hz y hy
  unfold Oper.wp
  simp [execOp, hop, hm, hx, hrun, Result.andThen]
  exact hK' _ _ (by simpa using h)
theorem wpList_update_m {ops : Array Oper} {rest : List Oper} {o : Oper} {a : Act} {Q : Exit → Act → World → Prop} {t e : TypeId} (ht : Try.prog.underlying t = some (.map 3 e))
    (hg : o.guard = none) (m x v : Operand) (hop : o.op = Op.mapUpdate t m x v) (hS : GMap W b z f ks) (hn : ks.length < 1000000) (y : Int) (hy : (Lit.int .i64 y).wf = true) (hm : a.eval m = .map (some b)) (hx : a.eval x = .int .i64 y) (u : Value) (hv : a.eval v = u)
    (h : ∀ V, Hid (GMap V b z (setI f y u) (addK ks y)) → Hid (W.grownBy V (some b)) → wpList Try.prog ops Q rest (a.put o.dst undef) V) : wpList Try.prog ops Q (o :: rest) a W := by
  refine wpList_plain hg fun K' hK' => ?_
  obtain ⟨V, hrun, r1, r2⟩ := hS.upd ht hn y hy u
  unfold Oper.wp
  simp [execOp, hop, hm, hx, hv, hrun, Result.andThen]
  exact hK' _ _ (h V r1 r2)
end
end Go.Proofs.Ytdkgclgccicbeaa.Gt
