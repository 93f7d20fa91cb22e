/-
  Maps with integer keys and whatever values, that a call makes, as GMap, with room for eight million keys; and ranged over.
-/
import Derived.Test.YtdkgclgccicbeaaGMap
import Derived.Maps.RangeWalk
namespace Go.Proofs.Ytdkgclgccicbeaa.Gt
set_option linter.unusedVariables false
open Go.RowKit Mem
open Go.Maps (Keyed)

/-- Block b is a map that holds f at each number (z where nothing was stored); ks: the keys, each once. -/
def NMap (W : World) (b : Nat) (z : Value) (f : Int → Value) (ks : List Int) : Prop :=
  ∃ (D : DataW Value) (n : Nat), n < maxLen ∧ n ≤ 8388608 ∧ Maps.Tidy D ∧ W.ownsMap Try.prog 3 rdV b n D ∧ (∀ x : Int, (Lit.int .i64 x).wf = true → D.atKey (.int .i64 x) (.held z) = .held (f x)) ∧
    (∀ x : Int, (Lit.int .i64 x).wf = true → Maps.has D (.int .i64 x) = decide (x ∈ ks)) ∧ Maps.size D = ks.length ∧ n = ks.length
section
variable {W V : World} {b : Nat} {z : Value} {f : Int → Value} {ks : List Int}
theorem NMap.made (W : World) (z : Value) : NMap (W.alloc (.map #[] 0)) W.heap.size z (fun _ => z) [] :=
  ⟨.map [], 0, by simp [maxLen], by omega, Maps.tidy_empty, World.ownsMap_made W _ _ _, fun x _ => by simp [DataW.atKey], fun x _ => by simp [Maps.has_eq], rfl, rfl⟩
theorem NMap.lt (h : NMap W b z f ks) : b < W.heap.size := by obtain ⟨D, n, _, _, _, h1, _⟩ := h; exact h1.lt
theorem NMap.kept {row : Option Nat} (h : NMap W b z f ks) (hg : W.grownBy V row) (hne : some b ≠ row) : NMap V b z f ks := by
  obtain ⟨D, n, h0, h1, h2, h3, h4⟩ := h; exact ⟨D, n, h0, h1, h2, h3.kept hg hne, h4⟩
theorem NMap.later (h : NMap W b z f ks) (hb : Below W.heap.size W V) : NMap V b z f ks :=
  h.kept (row := none) ⟨hb.os, hb.tape, hb.output, hb.size, fun k hk _ => hb.block k hk⟩ (by simp)
theorem NMap.alloc (h : NMap W b z f ks) (o : Obj) : NMap (W.alloc o) b z f ks := h.later ((Below.refl _ _).alloc (Nat.le_refl _) _)
theorem NMap.drew (h : NMap W b z f ks) : NMap W.drew b z f ks := h
theorem NMap.drewN (h : NMap W b z f ks) (n : Nat) : NMap (W.drewN n) b z f ks := h
theorem NMap.setCell (h : NMap W b z f ks) {a : Addr} (ha : b ≠ a.block) (u : Value) : NMap (W.setCell a u) b z f ks := by
  obtain ⟨D, n, h0, h1, h2, h3, h4⟩ := h; exact ⟨D, n, h0, h1, h2, h3.setCell ha u, h4⟩
theorem NMap.congr {g : Int → Value} (h : NMap W b z f ks) (hg : ∀ x, f x = g x) : NMap W b z g ks := by
  obtain rfl : f = g := funext hg
  exact h
set_option maxRecDepth 100000 in
theorem NMap.look (h : NMap W b z f ks) {t e : TypeId} (ht : Try.prog.underlying t = some (.map 3 e)) (hz : (zeroValue e).run Try.prog W = .ok z W) (x : Int) (hx : (Lit.int .i64 x).wf = true) :
    (Instr.lookup t (.map (some b)) (.int .i64 x) false).run Try.prog W = .ok (f x) W := by
  obtain ⟨D, n, _, _, h2, h3, h4, _⟩ := h
  obtain ⟨v, ps, hrun, hv⟩ := h3.lookup keyI ht hz (show rdV z = some (.held z, []) from rfl) (Go.Maps.keyOf_int_mk Try.underlying3 hx)
  rw [hrun]
  rw [h4 x hx] at hv
  unfold rdV at hv
  injection hv with hv
  injection hv with hv _
  injection hv with hv
  rw [hv]
set_option maxRecDepth 100000 in
theorem NMap.upd (h : NMap W b z f ks) {t e : TypeId} (ht : Try.prog.underlying t = some (.map 3 e)) (hn : ks.length < 8388608) (x : Int) (hx : (Lit.int .i64 x).wf = true) (v : Value) :
    ∃ V, (Instr.mapUpdate t (.map (some b)) (.int .i64 x) v).run Try.prog W = .ok () V ∧ NMap V b z (setI f x v) (addK ks x) ∧ W.grownBy V (some b) := by
  obtain ⟨D, n, h0, h1, h2, h3, h4, h5, h6, h7⟩ := h
  obtain ⟨V, r1, r2, r3⟩ := h3.update keyI ht h0 (Go.Maps.keyOf_int_mk Try.underlying3 hx) (show rdV v = some (.held v, []) from rfl)
  have hk := keyI.key (Go.Maps.keyOf_int_mk (P := Try.prog) Try.underlying3 hx)
  have hsize : Maps.size (D.put (.int .i64 x) (.held v)) = (addK ks x).length := by
    rw [Maps.size_put h2, h5 x hx, h6]
    unfold addK
    by_cases e : x ∈ ks <;> simp [e]
  have hlen : (addK ks x).length ≤ ks.length + 1 := by
    unfold addK
    split
    · omega
    · simp
  have r2' : V.ownsMap Try.prog 3 rdV b (addK ks x).length (D.put (.int .i64 x) (.held v)) := by
    obtain ⟨es, clock, q1, q2, q3, q4⟩ := r2
    refine ⟨es, clock, q1, q2, ?_, q4⟩
    have e1 : es.size = Maps.size (D.put (.int .i64 x) (.held v)) := by
      rw [q4]
      show es.size = ((es.toList.map _).foldr DataW.insert []).length
      rw [Go.length_sorted]; simp
    omega
  refine ⟨V, r1, ⟨_, _, by unfold maxLen; omega, by omega, h2.put hk _, r2', fun y hy => ?_, fun y hy => ?_, hsize, rfl⟩, r3⟩
  · by_cases e : y = x
    · subst e
      rw [Maps.atKey_put_same h2.isMap hk, setI_same]
    · rw [Maps.atKey_put_other (fun e' => e (by injection e')), h4 y hy, setI_other _ _ e]
  · by_cases e : y = x
    · subst e
      rw [Maps.has_put_same h2.isMap hk]
      exact (decide_eq_true (mem_addK.2 (.inl rfl))).symm
    · rw [Maps.has_put_other (fun e' => e (by injection e')), h5 y hy]
      exact decide_eq_decide.2 ⟨fun h => mem_addK.2 (.inr h), fun h => (mem_addK.1 h).resolve_left e⟩
theorem NMap.len (h : NMap W b z f ks) {t e : TypeId} (ht : Try.prog.underlying t = some (.map 3 e)) (ty : TypeId) (n : Nat) (hn : ks.length = n) : (Builtin.len_ #[t] ty #[.map (some b)]).run Try.prog W = .ok (.int .i64 (n : Int)) W := by
  obtain ⟨D, m, _, _, h2, h3, h4, h5, h6, _⟩ := h
  rw [← hn, ← h6]
  exact h3.len ht _
theorem wpList_lookup_n {ops : Array Oper} {rest : List Oper} {o : Oper} {a : Act} {Q : Exit → Act → World → Prop} {t e : TypeId} (ht : Try.prog.underlying t = some (.map 3 e)) (hz : (zeroValue e).run Try.prog W = .ok z W)
    (hg : o.guard = none) (m x : Operand) (hop : o.op = Op.lookup t m x false) (hS : NMap W b z f ks) (y : Int) (hy : (Lit.int .i64 y).wf = true) (hm : a.eval m = .map (some b)) (hx : a.eval x = .int .i64 y) (c : Value) (hc : f y = c)
    (h : wpList Try.prog ops Q rest (a.put o.dst c) W) : wpList Try.prog ops Q (o :: rest) a W := by
  subst hc
  refine wpList_plain hg fun K' hK' => ?_
  have hrun := hS.look ht hz y hy
  unfold Oper.wp
  simp [execOp, hop, hm, hx, hrun, Result.andThen]
  exact hK' _ _ (by simpa using h)
theorem wpList_update_n {ops : Array Oper} {rest : List Oper} {o : Oper} {a : Act} {Q : Exit → Act → World → Prop} {t e : TypeId} (ht : Try.prog.underlying t = some (.map 3 e))
    (hg : o.guard = none) (m x v : Operand) (hop : o.op = Op.mapUpdate t m x v) (hS : NMap W b z f ks) (hn : ks.length < 8388608) (y : Int) (hy : (Lit.int .i64 y).wf = true) (hm : a.eval m = .map (some b)) (hx : a.eval x = .int .i64 y) (u : Value) (hv : a.eval v = u)
    (h : ∀ V, Hid (NMap V b z (setI f y u) (addK ks y)) → Hid (W.grownBy V (some b)) → wpList Try.prog ops Q rest (a.put o.dst undef) V) : wpList Try.prog ops Q (o :: rest) a W := by
  refine wpList_plain hg fun K' hK' => ?_
  obtain ⟨V, hrun, r1, r2⟩ := hS.upd ht hn y hy u
  unfold Oper.wp
  simp [execOp, hop, hm, hx, hv, hrun, Result.andThen]
  exact hK' _ _ (h V r1 r2)

/-- A map's range: what is left, and what the map holds. -/
structure NRange (w : World) (b r : Nat) (z : Value) (f : Int → Value) (ks : List Int) (left : Lit → Bool) (cnt : Nat) : Prop where
  ex : ∃ (D : DataW Value) (n : Nat), w.ranges Try.prog 3 rdV b r n D left cnt ∧ (∀ x : Int, (Lit.int .i64 x).wf = true → D.atKey (.int .i64 x) (.held z) = .held (f x)) ∧ (∀ x : Int, (Lit.int .i64 x).wf = true → Maps.has D (.int .i64 x) = decide (x ∈ ks))
theorem NRange.kept {row : Option Nat} {w w' : World} {r : Nat} {left : Lit → Bool} {cnt : Nat} (h : NRange w b r z f ks left cnt) (hg : w.grownBy w' row) (h1 : some b ≠ row) (h2 : some r ≠ row) : NRange w' b r z f ks left cnt := by
  obtain ⟨D, n, q1, q2, q3⟩ := h.ex
  exact ⟨D, n, q1.kept hg h1 h2, q2, q3⟩
theorem NRange.later {w w' : World} {r : Nat} {left : Lit → Bool} {cnt : Nat} (h : NRange w b r z f ks left cnt) (hb : Below w.heap.size w w') : NRange w' b r z f ks left cnt :=
  h.kept (row := none) ⟨hb.os, hb.tape, hb.output, hb.size, fun k hk _ => hb.block k hk⟩ (by simp) (by simp)
theorem NRange.left_eq {w : World} {r : Nat} {left : Lit → Bool} {cnt : Nat} (h : NRange w b r z f ks left cnt) : w.rangeLeft b r = cnt := by
  obtain ⟨D, n, q1, _⟩ := h.ex
  exact q1.left_eq
/-- 'range m'. -/
theorem wpList_range_n {ops : Array Oper} {rest : List Oper} {o : Oper} {a : Act} {w : World} {Q : Exit → Act → World → Prop} {t e : TypeId} (ht : Try.prog.underlying t = some (.map 3 e)) (hg : o.guard = none) (m : Operand) (hop : o.op = Op.range t m) (hm : a.eval m = .map (some b)) (hS : NMap w b z f ks)
    (h : ∀ w' left cnt, Hid (NRange w' b w.heap.size z f ks left cnt) → Hid (∀ x : Int, (Lit.int .i64 x).wf = true → left (.int .i64 x) = decide (x ∈ ks)) → Hid (Below w.heap.size w w') → Hid (w'.heap.size = w.heap.size + 1) → wpList Try.prog ops Q rest (a.put o.dst (.pointer (some ⟨w.heap.size, 0, none⟩))) w') :
    wpList Try.prog ops Q (o :: rest) a w := by
  obtain ⟨D, n, _, _, h2, h3, h4, h5, _⟩ := hS
  refine wpList_range_own w hg m t hop 3 e keyI ht _ b n D hm h3 ?_
  intro w' r1 r2 r3
  exact h w' _ _ ⟨D, n, r1, h4, h5⟩ h5 (show Below w.heap.size w w' from (Below.refl _ w).grown r2 (Nat.le_refl _) (fun j hj => by cases hj)) r3
/-- The step. -/
theorem wpList_next_n {ops : Array Oper} {rest : List Oper} {o : Oper} {a : Act} {w : World} {Q : Exit → Act → World → Prop} {r : Nat} {left : Lit → Bool} {cnt : Nat} (hg : o.guard = none) (it : Operand) (hop : o.op = Op.next it false) (hit : a.eval it = .pointer (some ⟨r, 0, none⟩)) (hS : NRange w b r z f ks left cnt)
    (hDone : Hid (∀ kl, left kl = false) → wpList Try.prog ops Q rest (a.put o.dst (.tuple #[.bool false])) w)
    (hMore : ∀ (x : Int) (w' : World) (cnt' : Nat), Hid ((Lit.int .i64 x).wf = true) → Hid (left (.int .i64 x) = true) → Hid (x ∈ ks) → Hid (NRange w' b r z f ks (fun y => left y && !y.sameKey (.int .i64 x)) cnt') → Hid (cnt' < cnt) → Hid (w.grownBy w' (some r)) → Hid (w'.heap.size = w.heap.size) →
      (Instr.entry (.pointer (some ⟨r, 0, none⟩))).run Try.prog w' = .ok (.tuple #[.int .i64 x, f x]) w' → wpList Try.prog ops Q rest (a.put o.dst (.tuple #[.bool true, .int .i64 x, f x])) w') :
    wpList Try.prog ops Q (o :: rest) a w := by
  obtain ⟨D, n, q1, q2, q3⟩ := hS.ex
  refine wpList_next_ranges (α := Int) (β := Value) w hg it hop 3 keyI rdV (Value.int .i64) id (fun key kl hkey => by obtain ⟨x, rfl, _⟩ := Maps.keyOf_int_inv Try.underlying3 hkey; exact ⟨x, rfl⟩) (fun v y hv => ⟨v, rfl⟩) b r n D left cnt hit q1 (fun _ hl => hDone hl) ?_
  intro x c kl y w' cnt' hkey hlk hv hat hrg hlt hgr hsz hen
  obtain ⟨x', ex, rfl, hwx⟩ := Maps.keyOf_int_inv Try.underlying3 hkey
  cases ex
  unfold rdV at hv
  injection hv with hv
  have e := (hat (.held z)).symm.trans (q2 x hwx)
  rw [← hv] at e
  simp only [id] at e hen ⊢
  injection e with e
  subst e
  have hin : x ∈ ks := by
    have e1 := q3 x hwx
    rw [Maps.has_true_of_atKey hat] at e1
    exact of_decide_eq_true e1.symm
  exact hMore x w' cnt' hwx hlk hin ⟨D, n, hrg, q2, q3⟩ hlt hgr hsz hen
end
end Go.Proofs.Ytdkgclgccicbeaa.Gt
