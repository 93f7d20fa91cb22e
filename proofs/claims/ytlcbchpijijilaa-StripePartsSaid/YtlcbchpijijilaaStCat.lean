/-
  slices.Grow from nil, slices.Concat of two slices of extents.
-/
import Derived.Test.YtlcbchpijijilaaStMem
import Derived.Test.YtlcbchpijijilaaStA
import Derived.Lib.AppendZerosOnto
import Derived.Lib.SliceRun
import Derived.Lib.Walk
namespace Go.Proofs.Ytlcbchpijijilaa.Stripe
set_option linter.unusedVariables false
open Go.RowKit Mem

/-- A slice of extents of the call's own. -/
def NewEx (es : List Ex) (n : Nat) (W : World) (e : Ending) (W' : World) : Prop := ∃ A c, e = .returned (.slice A n c) ∧ ETab W' W.heap.size (.slice A n c) es ∧ Below W.heap.size W W'
theorem zero_ex : ∃ z, (Try.prog.info? 43).bind (·.zero) = some z ∧ z.cells.size = 3 := by
  obtain ⟨i, hi, z, hz, _, _, h3⟩ := info_ex
  exact ⟨z, by rw [hi]; exact hz, h3⟩
set_option maxRecDepth 100000 in
set_option maxHeartbeats 4000000 in
theorem grow_c (n : Nat) (W : World) (hn : n ≤ 2199023255552) :
    Calls Try.prog 34 #[.slice none 0 0, .int .i64 n] W (NewEx [] 0 W) := by
  by_cases h0 : n = 0
  · subst h0
    go_enter Try.func34, Try.ntmps34
    go_wp2
    go_ret
    exact ⟨none, 0, rfl, ETab.nil _ _, Below.refl _ _⟩
  · obtain ⟨i, hi, z, hz, h1, h2, h3⟩ := info_ex
    have hold : (Builtin.firstCells i.size 0 (.slice none 0 0)).run Try.prog W.drew = .ok (#[] : Array Value) W.drew := run_firstCells_none W.drew i.size 0 0 0
    have hr : ∀ ty, (Builtin.append_ #[34, 3] ty #[.slice none 0 0, .int .i64 (n : Int)]).run Try.prog W = .ok (.slice (some ⟨W.heap.size, 0, none⟩) n (grownCap W n 0 43)) (W.drew.alloc (.cells ((#[] : Array Value) ++ Builtin.zeroCells z.cells n ++ Builtin.zeroCells z.cells (grownCap W n 0 43 - n)) 43)) := fun ty => by
      have h := Lib.run_append_grow_zeros W 34 3 ty 43 i z .i64 .i64 Try.underlying34 Try.underlying3 hi hz none 0 0 [] hold n (by omega) (by omega) (by omega) (by omega) (by rw [h2]; omega)
        (by rw [Nat.zero_add, h2]; exact growslice_fits (by omega) (by omega))
      rw [Nat.zero_add] at h
      exact h
    have hG1 : n ≤ grownCap W n 0 43 := grownCap_ge W _ _ _
    have hG2 := grownCap_le_maxLen W n 0 43 (by unfold maxLen; omega)
    generalize hg : grownCap W n 0 43 = G at *
    have hT := World.ownsRow_made (base := W.heap.size) (e := 43) (size := 3) W.drew ((#[] : Array Value) ++ Builtin.zeroCells z.cells n ++ Builtin.zeroCells z.cells (G - n)) G (Nat.le_refl _) hG2 (by simp [size_zeroCells, h3]; omega)
    have HT := Lib.hid hT
    have hG3 : G ≤ 9223372036854775807 := by unfold maxLen at hG2; omega
    have HW : Hid (Below W.heap.size W (W.drew.alloc (.cells ((#[] : Array Value) ++ Builtin.zeroCells z.cells n ++ Builtin.zeroCells z.cells (G - n)) 43))) := Lib.hid ((below_drew (Below.refl _ _)).alloc (Nat.le_refl _) _)
    generalize hws : W.drew.alloc (.cells ((#[] : Array Value) ++ Builtin.zeroCells z.cells n ++ Builtin.zeroCells z.cells (G - n)) 43) = V at *
    have i1 : (0 : Int) < (n : Int) := by omega
    clear hold hi hz h1 h2 h3 hT hg hws hG2
    go_enter Try.func34, Try.ntmps34
    go_wp2_with (at_builtin; refine Lib.wpList_append_run _ rfl _ _ _ _ rfl _ _ rfl rfl _ _ (hr _) ?_)
    go_ret
    exact ⟨some ⟨W.heap.size, 0, none⟩, G, rfl, HT.out, HW.out⟩

theorem run_append_none_ex (w : World) (base : Nat) (ty : TypeId) (c : Nat) (v : Value) (n : Nat) (xs : List Value) (hown : w.ownsRow base 43 3 v n xs) :
    (Builtin.append_ #[34, 34] ty #[v, .slice none 0 c]).run Try.prog w = .ok v w := by
  obtain ⟨i, hi, z, hz, h1, h2, h3⟩ := info_ex
  rcases hown.2 with ⟨rfl, rfl⟩ | ⟨g, cap, cur, rfl, _, _, hnc, _⟩
  · simp [Builtin.append_, run_underlying Try.underlying34, sizeOf, typeInfo, hi, Builtin.lenOf, Builtin.firstCells]
  · simp [Builtin.append_, run_underlying Try.underlying34, sizeOf, typeInfo, hi, Builtin.lenOf, Builtin.firstCells, hnc, storeCells]
/-- 'append(v, es...)'. -/
theorem wpList_append_exs {ops : Array Oper} {rest : List Oper} {o : Oper} {a : Act} {Q : Exit → Act → World → Prop} (hgd : o.guard = none) (s x : Operand)
    (ho : o.op = .call { callee := .builtin .append, args := #[s, x], argTypes := #[34, 34] }) {w : World} {B : Nat} {v : Value} {es us : List Ex} {n m c : Nat} {A : Option Addr} (hs : a.eval s = v)
    (hx : a.eval x = .slice A m c) (hm : us.length = m) (hr : ERds w A us) (hg : ETab w B v es) (hn : es.length = n) (hl2 : (n + m) * 24 ≤ 140737488355328) (hB : B ≤ w.heap.size) {B0 : Nat} {w0 : World} (hb : Below B0 w0 w) (hB0 : B0 ≤ B) (hsz : B0 ≤ w.heap.size)
    (h : ∀ A c w', Hid (ETab w' B (.slice A (n + m) c) (es ++ us)) → Hid (Below B0 w0 w') → wpList Try.prog ops Q rest (a.put o.dst (.slice A (n + m) c)) w') :
    wpList Try.prog ops Q (o :: rest) a w := by
  obtain ⟨i, hi, z, hz, h1, h2, h3⟩ := info_ex
  subst hn hm
  cases A with
  | none =>
    have hus : us = [] := by
      cases us with
      | nil => rfl
      | cons u us => obtain ⟨b, o', h1, _⟩ := hr 0 u rfl; cases h1
    subst hus
    obtain ⟨A', c', hv, _, _⟩ := hg.form
    refine wpList_plain hgd fun K hK => ?_
    have hrun := run_append_none_ex w B o.type c v es.length (flat es) hg
    unfold Oper.wp
    simp [execOp, ho, resolve, invoke, builtin, hs, hx, hrun, Result.andThen]
    subst hv
    exact hK _ _ (h A' c' w (by rw [List.append_nil]; exact hg) hb)
  | some ad =>
    refine wpList_append_own_at (w := w) hgd s x 34 ho B 43 i z 3 24 Try.underlying34 hi hz h1 h2 h3 (by decide) v es.length (flat es) hs hg ad us.length c (flat us) hx (flat_len us) ?_ (flat_one us) (by unfold maxLen; omega) hl2 hB ?_
    · intro j u hj
      obtain ⟨b, o', e, _, e3⟩ := hr.reads j u hj
      injection e with e
      subst e
      rw [Addr.add_lit]; exact e3
    · intro v' w' k1 g2 _ _
      have hT : ETab w' B v' (es ++ us) := by
        unfold ETab
        rw [List.length_append, flat_app]
        exact k1
      obtain ⟨A, c, hv, _, _⟩ := hT.form
      rw [List.length_append] at hv
      subst hv
      exact h A c w' hT (hb.grown g2 hsz fun k hk => Nat.le_trans hB0 (hg.lt k hk).1)
end Go.Proofs.Ytlcbchpijijilaa.Stripe
