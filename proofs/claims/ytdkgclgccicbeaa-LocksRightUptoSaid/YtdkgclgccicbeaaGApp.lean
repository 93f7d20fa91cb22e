/-
  Slices of structs of whatever type: many elements appended at once, in a drawn region or not.
-/
import Derived.Test.YtdkgclgccicbeaaGTab
import Derived.Deep.DeepAppendWide
import Derived.Deep.RegionHeld3
namespace Go.Proofs.Ytdkgclgccicbeaa.Gt
set_option linter.unusedVariables false
open Go.RowKit Mem

theorem reads_lit (V : World) (t : TypeId) {cs : Array Value} {l : List Value} (h : cs.toList = l) : Reads (V.alloc (.cells cs t)) (some ⟨V.heap.size, 0, none⟩) l := fun k v hv => by
  refine ⟨V.heap.size, 0, rfl, by simp, ?_⟩
  rw [Nat.zero_add, (Known.made V t cs).cell k]
  rw [← h] at hv
  simpa using hv
section
variable {α : Type} {sz : Nat} {E : Enc α sz}
set_option maxRecDepth 100000 in
theorem run_append_g {t e : TypeId} {bytes : Nat} (L : El t e sz bytes) (h0 : 0 < sz) (ty : TypeId) {w : World} {B n m c b o' : Nat} {v : Value} {es ys : List α} (hg : Tab E w B e v es) (hn : es.length = n) (hr : Reads w (some ⟨b, o', none⟩) (flat E ys)) (hy : ys.length = m)
    (hl1 : n + m ≤ maxLen) (hl : ((n + m) + (n + m) / 4 + 192) * bytes ≤ 281474976710656) (hB : B ≤ w.heap.size) :
    ∃ A' c' w', (Builtin.append_ #[t, t] ty #[v, .slice (some ⟨b, o', none⟩) m c]).run Try.prog w = .ok (.slice A' (n + m) c') w' ∧ Tab E w' B e (.slice A' (n + m) c') (es ++ ys) ∧ w.grownBy w' v.ownBlock := by
  subst hn hy
  obtain ⟨i, hi, z, hz0, hz1, hz2, hz3⟩ := L.hi
  obtain ⟨v', w', hrun, h2, h3, _⟩ := run_append_own_wide (P := Try.prog) w B t ty e i z sz bytes L.ht hi hz0 hz1 hz2 hz3 h0 v es.length (flat E es) hg ⟨b, o', none⟩ ys.length c (flat E ys) (flat_len E ys)
    (fun j u hj => by
      obtain ⟨b', q, e, _, h3⟩ := hr j u hj
      injection e with e
      injection e with e1 e2
      subst e1 e2
      rw [Addr.add_lit]; exact h3) (flat_one E ys) hl1 hl hB
  have hT : Tab E w' B e v' (es ++ ys) := by
    unfold Tab
    rw [List.length_append, flat_app]
    exact h2
  obtain ⟨A', c', hv, _, _⟩ := hT.form
  rw [List.length_append] at hv
  subst hv
  exact ⟨A', c', w', hrun, hT, h3⟩
set_option maxRecDepth 100000 in
theorem step_append_g {t e : TypeId} {bytes : Nat} (L : El t e sz bytes) (h0 : 0 < sz) {ops : Array Oper} {o : Oper} {a : Act} {w : World} {K : Act → World → Prop} {Q : Exit → Act → World → Prop} {F : Prop} (hgd : o.guard = none) (s x : Operand)
    (ho : o.op = .call { callee := .builtin .append, args := #[s, x], argTypes := #[t, t] }) {B n m c b o' : Nat} {v : Value} {es ys : List α} {AD : Option Addr} (hs : a.eval s = v) (hx : a.eval x = .slice AD m c) (had : AD = some ⟨b, o', none⟩)
    (hg : Tab E w B e v es) (hn : es.length = n) (hr : Reads w (some ⟨b, o', none⟩) (flat E ys)) (hy : ys.length = m) (hl1 : n + m ≤ maxLen) (hl : ((n + m) + (n + m) / 4 + 192) * bytes ≤ 281474976710656) (hB : B ≤ w.heap.size)
    (h : ∀ A' c' w', Hid (Tab E w' B e (.slice A' (n + m) c') (es ++ ys)) → Hid (w.grownBy w' v.ownBlock) → K (a.put o.dst (.slice A' (n + m) c')) w') :
    if Region.wanted o (yielded ops a.tmps) = true then Oper.wp Try.prog o a w K Q else F := by
  subst had
  have hw : Region.wanted o (yielded ops a.tmps) = true := by simp [Region.wanted, hgd]
  rw [if_pos hw]
  obtain ⟨A', c', w', hrun, hT, h3⟩ := run_append_g (c := c) L h0 o.type hg hn hr hy hl1 hl hB
  unfold Oper.wp execOp
  simp only [ho, resolve, invoke, builtin, Sem.run_bind, Sem.run_pure, Result.andThen_ok, List.map_toArray, List.map_cons, List.map_nil, hs, hx, hrun]
  exact h A' c' w' hT h3
set_option maxRecDepth 100000 in
/-- .. and in an ordinary walk. -/
theorem wpList_append_gm {t e : TypeId} {bytes : Nat} (L : El t e sz bytes) (h0 : 0 < sz) {ops : Array Oper} {rest : List Oper} {o : Oper} {a : Act} {w : World} {Q : Exit → Act → World → Prop} (hgd : o.guard = none) (s x : Operand)
    (ho : o.op = .call { callee := .builtin .append, args := #[s, x], argTypes := #[t, t] }) {B n m c b o' : Nat} {v : Value} {es ys : List α} {AD : Option Addr} (hs : a.eval s = v) (hx : a.eval x = .slice AD m c) (had : AD = some ⟨b, o', none⟩)
    (hg : Tab E w B e v es) (hn : es.length = n) (hr : Reads w (some ⟨b, o', none⟩) (flat E ys)) (hy : ys.length = m) (hl1 : n + m ≤ maxLen) (hl : ((n + m) + (n + m) / 4 + 192) * bytes ≤ 281474976710656) (hB : B ≤ w.heap.size)
    (h : ∀ A' c' w', Hid (Tab E w' B e (.slice A' (n + m) c') (es ++ ys)) → Hid (w.grownBy w' v.ownBlock) → wpList Try.prog ops Q rest (a.put o.dst (.slice A' (n + m) c')) w') :
    wpList Try.prog ops Q (o :: rest) a w := by
  subst had
  refine wpList_plain hgd fun K hK => ?_
  obtain ⟨A', c', w', hrun, hT, h3⟩ := run_append_g (c := c) L h0 o.type hg hn hr hy hl1 hl hB
  unfold Oper.wp execOp
  simp only [ho, resolve, invoke, builtin, Sem.run_bind, Sem.run_pure, Result.andThen_ok, List.map_toArray, List.map_cons, List.map_nil, hs, hx, hrun]
  exact hK _ _ (h A' c' w' hT h3)
end
end Go.Proofs.Ytdkgclgccicbeaa.Gt
