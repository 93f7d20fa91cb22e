/-
  append of items to a slice of the call's own, inside a region that draws its order.
-/
import Derived.Test.YtcbecpgllebepaaSwSpec
import Derived.Maps.AppendAt
import Derived.Deep.RegionLawGrows
import Derived.Deep.RegionHeld3
import Derived.Deep.DeepCutAuto
import Derived.Deep.Upon
namespace Go.Proofs.Ytcbecpgllebepaa.Straw
set_option linter.unusedVariables false
set_option linter.unusedSimpArgs false
open Go.RowKit Mem

set_option maxRecDepth 100000 in
theorem step_append_its {ops : Array Oper} {o : Oper} {a : Act} {w : World} {K : Act → World → Prop} {Q : Exit → Act → World → Prop} {E : Prop} (hgd : o.guard = none) (s x : Operand)
    (ho : o.op = .call { callee := .builtin .append, args := #[s, x], argTypes := #[41, 41] }) {B n m c b o' : Nat} {v : Value} {es ys : List It} {AD : Option Addr} (hs : a.eval s = v) (hx : a.eval x = .slice AD m c) (had : AD = some ⟨b, o', none⟩)
    (hg : WTab w B v es) (hn : es.length = n) (hr : WRds w (some ⟨b, o', none⟩) ys) (hy : ys.length = m) (hl : (n + m) * 16 ≤ 140737488355328) (hB : B ≤ w.heap.size)
    (h : ∀ A' c' w', Hid (WTab w' B (.slice A' (n + m) c') (es ++ ys)) → Hid (w.grownBy w' v.ownBlock) → K (a.put o.dst (.slice A' (n + m) c')) w') :
    if Region.wanted o (yielded ops a.tmps) = true then Oper.wp Try.prog o a w K Q else E := by
  subst hn hy had
  have hw : Region.wanted o (yielded ops a.tmps) = true := by simp [Region.wanted, hgd]
  rw [if_pos hw]
  obtain ⟨i, hi, z, hz0, hz1, hz2, hz3⟩ := info_it
  obtain ⟨v', w', hrun, h2, h3, _, _⟩ := run_append_own_at (P := Try.prog) w B 41 o.type 47 i z 2 16 Try.underlying41 hi hz0 hz1 hz2 hz3 (by decide) v es.length (flat es) hg ⟨b, o', none⟩ ys.length c (flat ys) (flat_len ys)
    (fun j u hj => by
      obtain ⟨b', q, e, _, h3⟩ := wrds_reads hr j u hj
      injection e with e
      injection e with e1 e2
      subst e1 e2
      rw [Addr.add_lit]; exact h3) (flat_one ys) (by unfold maxLen; omega) hl hB
  have hT : WTab w' B v' (es ++ ys) := by
    unfold WTab
    rw [List.length_append, flat_app]
    exact h2
  obtain ⟨A', c', hv, _, _⟩ := hT.form
  rw [List.length_append] at hv
  subst hv
  unfold Oper.wp execOp
  simp only [ho, resolve, invoke, builtin, Sem.run_bind, Sem.run_pure, Result.andThen_ok, List.map_toArray, List.map_cons, List.map_nil, hs, hx, hrun]
  exact h A' c' w' hT h3

set_option maxRecDepth 100000 in
theorem step_append_nil {ops : Array Oper} {o : Oper} {a : Act} {w : World} {K : Act → World → Prop} {Q : Exit → Act → World → Prop} {E : Prop} (hgd : o.guard = none) (s x : Operand)
    (ho : o.op = .call { callee := .builtin .append, args := #[s, x], argTypes := #[41, 41] }) {n c : Nat} {A : Option Addr} (hs : a.eval s = .slice A n c) (hc : n ≤ c) (hx : a.eval x = .slice none 0 0)
    (h : K (a.put o.dst (.slice A n c)) w) : if Region.wanted o (yielded ops a.tmps) = true then Oper.wp Try.prog o a w K Q else E := by
  have hw : Region.wanted o (yielded ops a.tmps) = true := by simp [Region.wanted, hgd]
  rw [if_pos hw]
  obtain ⟨i, hi, z, hz0, hz1, hz2, hz3⟩ := info_it
  have hsrc : Src Try.prog i.size 41 (.slice none 0 0) 0 [] w := Src.ofNil w Try.underlying41 0
  have hrun := run_append_nothing w 41 41 o.type _ i Try.underlying41 hi A n c hc _ hsrc
  unfold Oper.wp execOp
  simp only [ho, resolve, invoke, builtin, Sem.run_bind, Sem.run_pure, Result.andThen_ok, List.map_toArray, List.map_cons, List.map_nil, hs, hx, hrun]
  exact h
end Go.Proofs.Ytcbecpgllebepaa.Straw
