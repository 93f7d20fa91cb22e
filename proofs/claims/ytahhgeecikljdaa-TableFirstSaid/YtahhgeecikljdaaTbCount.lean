/-
  How often each number stands in a slice, as a map; how many numbers a table holds.
-/
import Derived.Test.YtahhgeecikljdaaTbAlive
namespace Go.Proofs.Ytahhgeecikljdaa.Tb
set_option linter.unusedVariables false
set_option linter.unusedSimpArgs false
open Go.RowKit Mem
open Go.Maps (Keyed)

theorem intZero (w : World) : (zeroValue 3).run Try.prog w = .ok (.int .i64 0) w := by kernel_rfl
/-- Block b is a map that holds how often each number stands in l. -/
def CMap (W : World) (b : Nat) (l : List Int) : Prop :=
  ∃ (D : DataW Unit) (n : Nat), n ≤ l.length ∧ Maps.Tidy D ∧ W.ownsMap Try.prog 3 (plainElem Try.prog 3) b n D ∧
    (∀ x : Int, (Lit.int .i64 x).wf = true → D.atKey (.int .i64 x) (.lit (.int .i64 0)) = .lit (.int .i64 (l.count x : Nat))) ∧
    (∀ x : Int, (Lit.int .i64 x).wf = true → Maps.has D (.int .i64 x) = decide (x ∈ l)) ∧ Maps.size D = (Ring.nub l).length
section
variable {W V : World} {b : Nat} {l : List Int}
theorem CMap.made (W : World) : CMap (W.alloc (.map #[] 0)) W.heap.size [] :=
  ⟨.map [], 0, Nat.le_refl _, Maps.tidy_empty, World.ownsMap_made W _ _ _, fun x _ => by simp [DataW.atKey], fun x _ => by simp [Maps.has_eq], rfl⟩
theorem CMap.lt (h : CMap W b l) : b < W.heap.size := by obtain ⟨D, n, _, _, h1, _⟩ := h; exact h1.lt
theorem CMap.kept {row : Option Nat} (h : CMap W b l) (hg : W.grownBy V row) (hne : some b ≠ row) : CMap V b l := by
  obtain ⟨D, n, h1, h2, h3, h4⟩ := h; exact ⟨D, n, h1, h2, h3.kept hg hne, h4⟩
theorem CMap.later (h : CMap W b l) (hb : Below W.heap.size W V) : CMap V b l :=
  h.kept (row := none) ⟨hb.os, hb.tape, hb.output, hb.size, fun k hk _ => hb.block k hk⟩ (by simp)
set_option maxRecDepth 100000 in
theorem CMap.look (h : CMap W b l) (x : Int) (hx : (Lit.int .i64 x).wf = true) : (Instr.lookup 37 (.map (some b)) (.int .i64 x) false).run Try.prog W = .ok (.int .i64 (l.count x : Nat)) W := by
  obtain ⟨D, n, h1, h2, h3, h4, _⟩ := h
  obtain ⟨c, hrun, hat, _⟩ := h3.lookup_int intKeyed Try.underlying37 Try.underlying3 (intZero W) (Go.Maps.keyOf_int_mk Try.underlying3 hx)
  rw [hrun]
  rw [h4 x hx] at hat
  injection hat with hat
  injection hat with _ hat
  rw [hat]
theorem nub_add (l : List Int) (x : Int) : (Ring.nub (l ++ [x])).length = if x ∈ l then (Ring.nub l).length else (Ring.nub l).length + 1 := by
  rw [Ring.nub_snoc, Ring.add]
  by_cases h : x ∈ l
  · rw [if_pos (Ring.mem_nub.2 h), if_pos h]
  · rw [if_neg (fun h' => h (Ring.mem_nub.1 h')), if_neg h]; simp
set_option maxRecDepth 100000 in
theorem CMap.upd (h : CMap W b l) (hn : l.length < 1000000) (x : Int) (hx : (Lit.int .i64 x).wf = true) :
    ∃ V, (Instr.mapUpdate 37 (.map (some b)) (.int .i64 x) (.int .i64 ((l.count x : Nat) + 1))).run Try.prog W = .ok () V ∧ CMap V b (l ++ [x]) ∧ W.grownBy V (some b) := by
  obtain ⟨D, n, h1, h2, h3, h4, h5, h6⟩ := h
  have hc := List.count_le_length (a := x) (l := l)
  have hwf : (Lit.int .i64 ((l.count x : Nat) + 1)).wf = true := by
    simp [Lit.wf, IntKind.min, IntKind.max, IntKind.bits, IntKind.signed]; omega
  obtain ⟨V, r1, r2, r3⟩ := h3.update intKeyed Try.underlying37 (Nat.lt_of_le_of_lt h1 (by unfold maxLen; omega)) (Go.Maps.keyOf_int_mk Try.underlying3 hx) (plainElem_int Try.underlying3 hwf)
  have hk := intKeyed.key (Go.Maps.keyOf_int_mk (P := Try.prog) Try.underlying3 hx)
  refine ⟨V, r1, ⟨_, n + 1, by simp; omega, ?_, r2, fun y hy => ?_, fun y hy => ?_, ?_⟩, r3⟩
  · exact h2.put hk _
  · by_cases e : y = x
    · subst e
      rw [Maps.atKey_put_same h2.isMap hk]
      rw [List.count_append]; simp
    · rw [Maps.atKey_put_other (fun e' => e (by injection e')), h4 y hy, List.count_append]
      simp [List.count_singleton, show ¬ x = y from fun h => e h.symm]
  · by_cases e : y = x
    · subst e
      rw [Maps.has_put_same h2.isMap hk]; simp
    · rw [Maps.has_put_other (fun e' => e (by injection e')), h5 y hy]; simp [e]
  · rw [Maps.size_put h2, h5 x hx, nub_add, h6]
    by_cases e : x ∈ l <;> simp [e]
theorem wpList_lookup_cnt {ops : Array Oper} {rest : List Oper} {o : Oper} {a : Act} {Q : Exit → Act → World → Prop} (hg : o.guard = none) (m x : Operand) (hop : o.op = Op.lookup 37 m x false)
    (hS : CMap W b l) (y : Int) (hy : (Lit.int .i64 y).wf = true) (hm : a.eval m = .map (some b)) (hx : a.eval x = .int .i64 y) (c : Nat) (hc : l.count y = c)
    (h : wpList Try.prog ops Q rest (a.put o.dst (.int .i64 (c : Int))) W) : wpList Try.prog ops Q (o :: rest) a W := by
  subst hc
  refine wpList_plain hg fun K' hK' => ?_
  have hrun := hS.look y hy
  unfold Oper.wp
  simp [execOp, hop, hm, hx, hrun, Result.andThen]
  exact hK' _ _ (by simpa using h)
theorem wpList_update_cnt {ops : Array Oper} {rest : List Oper} {o : Oper} {a : Act} {Q : Exit → Act → World → Prop} (hg : o.guard = none) (m x v : Operand) (hop : o.op = Op.mapUpdate 37 m x v)
    (hS : CMap W b l) (hn : l.length < 1000000) (y : Int) (hy : (Lit.int .i64 y).wf = true) (hm : a.eval m = .map (some b)) (hx : a.eval x = .int .i64 y) (c : Nat) (hc : l.count y = c) (hv : a.eval v = .int .i64 ((c : Int) + 1))
    (h : ∀ V, CMap V b (l ++ [y]) → W.grownBy V (some b) → wpList Try.prog ops Q rest (a.put o.dst undef) V) : wpList Try.prog ops Q (o :: rest) a W := by
  subst hc
  refine wpList_plain hg fun K' hK' => ?_
  obtain ⟨V, hrun, r1, r2⟩ := hS.upd hn y hy
  unfold Oper.wp
  simp [execOp, hop, hm, hx, hv, hrun, Result.andThen]
  exact hK' _ _ (h V r1 r2)
theorem wpList_len_cnt {ops : Array Oper} {rest : List Oper} {o : Oper} {a : Act} {Q : Exit → Act → World → Prop} (hg : o.guard = none) (m : Operand) (hop : o.op = Op.call { callee := Callee.builtin Builtin.len, args := #[m], argTypes := #[37] })
    (hS : CMap W b l) (hm : a.eval m = .map (some b)) (c : Nat) (hc : (Ring.nub l).length = c)
    (h : wpList Try.prog ops Q rest (a.put o.dst (.int .i64 (c : Int))) W) : wpList Try.prog ops Q (o :: rest) a W := by
  obtain ⟨D, n, h1, h2, h3, h4, h5, h6⟩ := hS
  rw [← h6] at hc
  subst hc
  exact wpList_len_own _ hg m _ hop _ _ Try.underlying37 _ b n D hm h3 h
theorem CMap.len (h : CMap W b l) (c : Nat) (hc : (Ring.nub l).length = c) : (Builtin.len_ #[37] 3 #[.map (some b)]).run Try.prog W = .ok (.int .i64 (c : Int)) W := by
  obtain ⟨D, n, h1, h2, h3, h4, h5, h6⟩ := h
  rw [← h6] at hc
  subst hc
  exact h3.len Try.underlying37 _
end
/-- What count returns. -/
def CountOut (l : List Int) (W : World) (e : Ending) (W' : World) : Prop := ∃ b, e = .returned (.map (some b)) ∧ W.heap.size ≤ b ∧ CMap W' b l ∧ Below W.heap.size W W'
theorem take_next {l : List Int} {k : Nat} {x : Int} (h : l[k]? = some x) : l.take (k + 1) = l.take k ++ [x] := by rw [List.take_add_one, h]; rfl
set_option maxRecDepth 100000 in
set_option maxHeartbeats 4000000 in
theorem count_c (A : Option Addr) (l : List Int) (n ca : Nat) (W : World) (hn : l.length = n) (hb : n ≤ 1000) (hx : Reads W A (l.map (Value.int .i64))) (hwf : ∀ x ∈ l, (Lit.int .i64 x).wf = true) :
    Calls Try.prog 18 #[.slice A n ca] W (CountOut l W) := by
  have HX := Lib.hid hx
  have HN := Lib.hid hn
  have HW := Lib.hid hwf
  have hmm := @run_makeMap Try.prog
  clear hx hn hwf
  go_enter Try.func18, Try.ntmps18
  go_wp2
  have IS0 := Lib.hid (CMap.made W)
  have B0 := Lib.hid ((Below.refl W.heap.size W).alloc (Nat.le_refl _) (.map #[] 0))
  clear hmm
  go_loopw [9] (fun i wr => ∃ k : Nat, k ≤ n ∧ i = .int .i64 k ∧ CMap wr W.heap.size (l.take k) ∧ Below W.heap.size W wr) (fun i _ => n - (intOf i).toNat)
  case atStart => exact ⟨0, by omega, rfl, IS0.out, B0.out⟩
  case round =>
    obtain ⟨k, hk, rfl, hS, hB⟩ := hrel
    have IS := Lib.hid hS
    have HB := Lib.hid hB
    clear IS0 B0 hS
    by_cases hlt : k < n
    · have k1 : k < l.length := by rw [HN.out]; exact hlt
      obtain ⟨b, o, rfl, hbl, x0⟩ := reads_z HX.out k1
      have x1 := (hB.cell (p := ⟨b, o + k, none⟩) hbl).trans x0
      have TN := Lib.hid (take_next (List.getElem?_eq_getElem k1))
      have WX := Lib.hid (HW.out l[k] (List.getElem_mem k1))
      have LT := Lib.hid (show (l.take k).length < 1000000 by rw [List.length_take]; omega)
      have CL := List.count_le_length (a := l[k]) (l := l.take k)
      rw [List.length_take, Nat.min_eq_left (by omega)] at CL
      generalize hu : l[k] = x at *
      generalize hc : (l.take k).count x = c at *
      have HC := Lib.hid hc
      have j1 : (k : Int) < (n : Int) := by omega
      clear hu k1 x0 hB hc
      go_wp2_with (first | (refine wpList_lookup_cnt rfl _ _ (by rfl) IS.out x WX.out rfl rfl c HC.out ?_) | (refine wpList_update_cnt rfl _ _ _ (by rfl) IS.out LT.out x WX.out rfl rfl c HC.out rfl ?_; intro V hS hG; have IS2 := Lib.hid hS; have B2 := Lib.hid (HB.out.grown hG HB.out.size (fun k hk => by injection hk with hk; subst hk; exact Nat.le_refl _)); clear hS hG))
      go_roundw
      case rel => exact ⟨k + 1, by omega, by go_num, by rw [TN.out]; exact IS2.out, B2.out⟩
      case measure => simp [intOf]; omega
    · obtain rfl : k = n := by omega
      have FIN := Lib.hid (show CMap wr W.heap.size l by have := IS.out; rwa [List.take_of_length_le (by rw [HN.out]; omega)] at this)
      clear hB
      go_wp2
      go_ret
      exact ⟨W.heap.size, rfl, Nat.le_refl _, FIN.out, HB.out⟩

/-! ### What stands in a table -/
theorem table_full {ids : List Int} {p : Nat} (h : Prm p) (h1 : 1 ≤ ids.length) : Fulls (liks ids p) ids.length p := liks_fulls h h1
theorem table_mem {ids : List Int} {p : Nat} (h : Prm p) (h1 : 1 ≤ ids.length) {x : Int} (hx : x ∈ table ids p) : x ∈ ids := tb_mem (table_full h h1) rfl hx
theorem table_has {ids : List Int} {p : Nat} (h : Prm p) (h1 : 1 ≤ ids.length) (hp : ids.length ≤ p) (hn : ids.Nodup) {j : Nat} {x : Int} (hx : ids[j]? = some x) : x ∈ table ids p := by
  have hc := tb_count (table_full h h1) rfl hn hx
  have hd : 1 ≤ p / ids.length := Nat.div_pos hp h1
  exact List.count_pos_iff.1 (show 0 < (table ids p).count x by unfold table; rw [hc]; omega)
theorem nub_nodup (l : List Int) : (Ring.nub l).Nodup := by
  induction l using Ring.snoc_ind with
  | h0 => exact List.Pairwise.nil
  | h1 l x ih =>
    rw [Ring.nub_snoc, Ring.add]
    split
    · exact ih
    · rename_i h
      rw [List.nodup_append]
      exact ⟨ih, by simp, fun a ha b hb e => by simp at hb; subst hb; subst e; exact h ha⟩
theorem table_nub {ids : List Int} {p : Nat} (h : Prm p) (h1 : 1 ≤ ids.length) (hp : ids.length ≤ p) (hn : ids.Nodup) : (Ring.nub (table ids p)).length = ids.length := by
  refine List.Perm.length_eq ((List.perm_ext_iff_of_nodup (nub_nodup _) hn).2 fun x => ?_)
  rw [Ring.mem_nub]
  constructor
  · exact table_mem h h1
  · intro hx
    obtain ⟨j, hj⟩ := List.mem_iff_getElem?.1 hx
    exact table_has h h1 hp hn hj
end Go.Proofs.Ytahhgeecikljdaa.Tb
