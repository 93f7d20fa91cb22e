/-
  Slices of structs of whatever type: one element appended in a drawn region; where the answer lies is told.
-/
import Derived.Test.YtdkgclgccicbeaaGApp
import Derived.Deep.AppendLies
namespace Go.Proofs.Ytdkgclgccicbeaa.Gt
set_option linter.unusedVariables false
open Go.RowKit Mem

section
variable {α : Type} {sz : Nat} {E : Enc α sz}
theorem step_append_1 {t e : TypeId} {bytes : Nat} (L : El t e sz bytes) (h0 : 0 < sz) {ops : Array Oper} {o : Oper} {a : Act} {w : World} {K : Act → World → Prop} {Q : Exit → Act → World → Prop} {F : Prop} (hgd : o.guard = none) (s x : Operand)
    (ho : o.op = .call { callee := .builtin .append, args := #[s, x], argTypes := #[t, t] }) {B n b : Nat} {v : Value} {es : List α} {y : α} (hs : a.eval s = v) (hx : a.eval x = .slice (some ⟨b, 0, none⟩) 1 1)
    (hg : Tab E w B e v es) (hn : es.length = n) {cs : Array Value} (hcs : cs.toList = E.enc y) (hk : Known w b e cs) (hl1 : n + 1 ≤ maxLen) (hl : (n + 1) * bytes ≤ 140737488355328) (hB : B ≤ w.heap.size)
    (h : ∀ g c w', Hid (Tab E w' B e (.slice (some ⟨g, 0, none⟩) (n + 1) c) (es ++ [y])) → Hid (w.grownBy w' v.ownBlock) → Hid (v.ownBlock = some g ∨ g = w.heap.size) → K (a.put o.dst (.slice (some ⟨g, 0, none⟩) (n + 1) c)) w') :
    if Region.wanted o (yielded ops a.tmps) = true then Oper.wp Try.prog o a w K Q else F := by
  subst hn
  obtain ⟨i, hi, z, hz0, hz1, hz2, hz3⟩ := L.hi
  refine step_append_lies w hgd s x t ho B e i z sz bytes L.ht hi hz0 hz1 hz2 hz3 h0 v es.length (flat E es) hs hg ⟨b, 0, none⟩ 1 1 (E.enc y) hx (by rw [E.len, Nat.one_mul]) ?_ (E.one y) (by omega) hl1 hl hB w.heap.size rfl ?_
  · intro j u hj
    rw [← hcs] at hj
    have hj' : cs[j]? = some u := by simpa using hj
    rw [Addr.add_lit, Nat.zero_add, hk.cell j, hj']
  · intro g cap w' k1 k2 k3 _
    refine h g cap w' ?_ k2 k3
    unfold Tab Hid
    rw [List.length_append, flat_app, flat_one_el]
    exact k1
/-- .. and in an ordinary walk. -/
theorem wpList_append_1 {t e : TypeId} {bytes : Nat} (L : El t e sz bytes) (h0 : 0 < sz) {ops : Array Oper} {rest : List Oper} {o : Oper} {a : Act} {w : World} {Q : Exit → Act → World → Prop} (hgd : o.guard = none) (s x : Operand)
    (ho : o.op = .call { callee := .builtin .append, args := #[s, x], argTypes := #[t, t] }) {B n b : Nat} {v : Value} {es : List α} {y : α} (hs : a.eval s = v) (hx : a.eval x = .slice (some ⟨b, 0, none⟩) 1 1)
    (hg : Tab E w B e v es) (hn : es.length = n) {cs : Array Value} (hcs : cs.toList = E.enc y) (hk : Known w b e cs) (hl1 : n + 1 ≤ maxLen) (hl : (n + 1) * bytes ≤ 140737488355328) (hB : B ≤ w.heap.size)
    (h : ∀ g c w', Hid (Tab E w' B e (.slice (some ⟨g, 0, none⟩) (n + 1) c) (es ++ [y])) → Hid (w.grownBy w' v.ownBlock) → Hid (v.ownBlock = some g ∨ g = w.heap.size) → wpList Try.prog ops Q rest (a.put o.dst (.slice (some ⟨g, 0, none⟩) (n + 1) c)) w') :
    wpList Try.prog ops Q (o :: rest) a w := by
  refine wpList_plain hgd fun K' hK' => ?_
  have hw : Region.wanted o (yielded ops a.tmps) = true := by simp [Region.wanted, hgd]
  have := step_append_1 (ops := ops) (K := K') (Q := Q) (F := True) L h0 hgd s x ho hs hx hg hn hcs hk hl1 hl hB (fun g c w' h1 h2 h3 => hK' _ _ (h g c w' h1 h2 h3))
  rwa [if_pos hw] at this
end
theorem known_lit2 (w : World) (o : Obj) (t : TypeId) (cs : Array Value) : Known ((w.alloc o).alloc (.cells cs t)) (w.heap.size + 1) t cs := by
  have := Known.made (w.alloc o) t cs
  rwa [show (w.alloc o).heap.size = w.heap.size + 1 by simp] at this
end Go.Proofs.Ytdkgclgccicbeaa.Gt
