/-
  Slices that a call makes: rows that grow by append, copies; what is kept of them when other memory turns.
-/
import Derived.Test.YtdkgclgccicbeaaRow
import Derived.Maps.AppendAt
import Derived.Deep.AppendLies
import Derived.Deep.RegionLaw
import Derived.Laws.CopyOwn
namespace Go.Proofs.Ytdkgclgccicbeaa.Mem
set_option linter.unusedVariables false
open Go.RowKit

/-- Slices of type t have elements of type e that are one cell each. -/
structure Elem (t e : TypeId) (bytes : Nat) : Prop where
  ht : Try.prog.underlying t = some (.slice e)
  hi : ∃ i z, Try.prog.info? e = some i ∧ i.zero = some z ∧ i.size = 1 ∧ i.bytes = bytes ∧ z.cells.size = 1
/-- v is a slice of the call's own (block B or later) that holds xs. -/
def Grows (W : World) (B : Nat) (e : TypeId) (v : Value) (xs : List Value) : Prop := W.ownsRow B e 1 v xs.length xs
section
variable {W V : World} {B : Nat} {e : TypeId} {v : Value} {xs : List Value}
theorem Grows.nil (W : World) (B : Nat) (e : TypeId) : Grows W B e (.slice none 0 0) [] := World.ownsRow_nil W B e 1
theorem Grows.form (h : Grows W B e v xs) : ∃ A cap, v = .slice A xs.length cap ∧ xs.length ≤ cap ∧ cap ≤ maxLen := by
  rcases h.2 with ⟨rfl, hn⟩ | ⟨g, cap, cur, rfl, _, _, h1, h2, _⟩
  · exact ⟨none, 0, by rw [hn], by omega, by simp [maxLen]⟩
  · exact ⟨_, cap, rfl, h1, h2⟩
theorem Grows.reads {A : Option Addr} {n cap : Nat} (h : Grows W B e (.slice A n cap) xs) : Reads W A xs := fun k u hu => by
  rcases h.2 with ⟨_, hn⟩ | ⟨g, c, cur, hv, _, hg, h1, _, hs, ht⟩
  · have : xs = [] := List.eq_nil_of_length_eq_zero hn
    subst this; simp at hu
  · injection hv with hA
    subst hA
    refine ⟨g, 0, rfl, (Array.getElem?_eq_some_iff.1 hg).1, ?_⟩
    rw [Nat.zero_add, cell_of_row W g k cur e (0, 0) hg]
    have := congrArg (fun L => L[k]?) ht
    simp only [List.getElem?_take] at this
    rw [hu] at this
    split at this
    · simpa using this
    · cases this
theorem Grows.later (h : Grows W B e v xs) (hb : Below W.heap.size W V) : Grows V B e v xs :=
  World.ownsRow.kept (row := none) h ⟨hb.os, hb.tape, hb.output, hb.size, fun k hk _ => hb.block k hk⟩ (by cases hv : v.ownBlock <;> simp)
theorem Grows.drawn (h : Grows W B e v xs) (hd : Drawn W V) : Grows V B e v xs := by obtain ⟨q, rfl⟩ := hd; exact h
theorem Grows.drew (h : Grows W B e v xs) : Grows W.drew B e v xs := h
theorem Grows.alloc (h : Grows W B e v xs) (o : Obj) : Grows (W.alloc o) B e v xs := World.ownsRow.alloc h o
theorem Grows.kept {row : Option Nat} (h : Grows W B e v xs) (hg : W.grownBy V row) (hne : v.ownBlock = none ∨ v.ownBlock ≠ row) : Grows V B e v xs := World.ownsRow.kept h hg hne
theorem Grows.lt (h : Grows W B e v xs) : ∀ k, v.ownBlock = some k → B ≤ k ∧ k < W.heap.size := World.ownsRow.lt h
theorem Grows.from_ {A : Option Addr} {n cap : Nat} (h : Grows W B e (.slice A n cap) xs) : ∀ a, A = some a → B ≤ a.block := fun a ha => by
  subst ha; exact (h.lt a.block rfl).1
end

theorem Grows.below {w w' w0 : World} {B B0 : Nat} {v : Value} {e : TypeId} {xs : List Value} (h : Grows w B e v xs) (hg : w.grownBy w' v.ownBlock) (hb : Below B0 w0 w) (hB : B0 ≤ B) (hs : B0 ≤ w.heap.size) : Below B0 w0 w' :=
  hb.grown hg hs fun k hk => Nat.le_trans hB (h.lt k hk).1
theorem Reads.grown {w w' : World} {A : Option Addr} {xs : List Value} {row : Option Nat} (h : Reads w A xs) (hg : w.grownBy w' row) (hr : ∀ a, A = some a → some a.block ≠ row) : Reads w' A xs := fun k v hv => by
  obtain ⟨b, o, h1, h2, h3⟩ := h k v hv
  exact ⟨b, o, h1, Nat.lt_of_lt_of_le h2 hg.size, (World.cell?_of_block (a := ⟨b, o + k, none⟩) (hg.block b h2 (hr _ h1))).trans h3⟩

/-- 'append(v, x)': one element is put behind a row of the call's own. -/
theorem wpList_append_one {t e : TypeId} {bytes : Nat} (E : Elem t e bytes) {ops : Array Oper} {rest : List Oper} {o : Oper} {a : Act} {Q : Exit → Act → World → Prop} (hgd : o.guard = none) (s x : Operand)
    (ho : o.op = .call { callee := .builtin .append, args := #[s, x], argTypes := #[t, t] }) {w : World} {u : Value} (hu : u.oneCell' = true) {B : Nat} {v : Value} {xs : List Value} (hs : a.eval s = v)
    (hx : a.eval x = .slice (some ⟨w.heap.size, 0, none⟩) 1 1) (hg : Grows w B e v xs) (hl : xs.length + 1 ≤ maxLen) (hl2 : (xs.length + 1) * bytes ≤ 140737488355328) (hB : B ≤ w.heap.size)
    (h : ∀ v' w', Grows w' B e v' (xs ++ [u]) → (w.alloc (.cells #[u] e)).grownBy w' v.ownBlock → wpList Try.prog ops Q rest (a.put o.dst v') w') :
    wpList Try.prog ops Q (o :: rest) a (w.alloc (.cells #[u] e)) := by
  obtain ⟨i, z, hi, hz0, hz1, hz2, hz3⟩ := E.hi
  refine wpList_append_own (w := w.alloc (.cells #[u] e)) hgd s x t ho B e i z 1 bytes E.ht hi hz0 hz1 hz2 hz3 (by decide) v xs.length xs hs (hg.alloc _) ⟨w.heap.size, 0, none⟩ 1 1 [u] hx rfl ?_ ?_ hl hl2 (by simp; omega) ?_
  · intro j u' hj
    cases j with
    | zero =>
      simp at hj; subst hj
      rw [show (⟨w.heap.size, 0, none⟩ : Addr).add 0 = ⟨w.heap.size, 0, none⟩ from rfl, (Known.made w e #[u]).cell 0]
      rfl
    | succ j => simp at hj
  · intro u' hu'; simp at hu'; subst hu'; exact hu
  · intro v' w' h1 h2 _
    refine h v' w' ?_ h2
    unfold Grows
    rw [List.length_append]
    exact h1
end Go.Proofs.Ytdkgclgccicbeaa.Mem
