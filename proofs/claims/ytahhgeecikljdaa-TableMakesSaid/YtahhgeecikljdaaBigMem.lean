/-
  Big numbers in memory: a block that is known whole, digits that a slice holds, a number that a pointer leads to.
-/
import Derived.Test.YtahhgeecikljdaaRows
import Derived.Test.YtahhgeecikljdaaBigPure
import Derived.WalkKit
import Derived.WalkLawsBesides
import Derived.WalkSpells
import Derived.Outline
import Derived.Lib.Hide
import Derived.Below
import Derived.Laws.OwnMore
import Derived.Deep.Draws
import Derived.Laws.Rows
import Derived.Deep.OwnRows
import Derived.OwnWalk
namespace Go.Proofs.Ytahhgeecikljdaa.Big
open Go.RowKit

def Blk (w : World) (g : Nat) (t : TypeId) (cs : Array Value) : Prop := w.heap[g]? = some (.cells cs t (0, 0))

section
variable {w w' : World} {g : Nat} {t : TypeId} {cs : Array Value}
theorem Blk.lt (h : Blk w g t cs) : g < w.heap.size := by
  rcases Nat.lt_or_ge g w.heap.size with hlt | hge
  · exact hlt
  · unfold Blk at h; rw [Array.getElem?_eq_none hge] at h; cases h
theorem Blk.cell (h : Blk w g t cs) (i : Nat) : w.cell? ⟨g, i, none⟩ = cs[i]? := cell_of_row w g i cs t (0, 0) h
theorem Blk.frozen (h : Blk w g t cs) (i : Nat) : w.frozen? ⟨g, i, none⟩ = false := by
  unfold Blk at h
  simp [World.frozen?, h]
theorem Blk.new (w : World) (t : TypeId) (cs : Array Value) : Blk (w.alloc (.cells cs t)) w.heap.size t cs := heap_alloc_new w _
theorem Blk.drew (h : Blk w g t cs) : Blk w.drew g t cs := h
theorem Blk.drewN (h : Blk w g t cs) (n : Nat) : Blk (w.drewN n) g t cs := h
theorem Blk.alloc (h : Blk w g t cs) (o : Obj) : Blk (w.alloc o) g t cs := (Below.heap_alloc w o g h.lt).trans h
theorem Blk.set_ (h : Blk w g t cs) (i : Nat) (u : Value) : Blk (w.setCell ⟨g, i, none⟩ u) g t (cs.setIfInBounds i u) := by
  unfold Blk at h ⊢
  simp [World.setCell, Array.getElem?_modify, h]
theorem Blk.far (h : Blk w g t cs) {p : Addr} (hp : g ≠ p.block) (u : Value) : Blk (w.setCell p u) g t cs := (Below.heap_setCell w p u g hp).trans h
theorem Blk.below {B : Nat} (h : Blk w g t cs) (hb : Below B w w') (hg : g < B) : Blk w' g t cs := (hb.block g hg).trans h
theorem Blk.grown {row : Option Nat} (h : Blk w g t cs) (hb : w.grownBy w' row) (hg : some g ≠ row) : Blk w' g t cs := (hb.block g h.lt hg).trans h
theorem Blk.ne_ {g' : Nat} {t' : TypeId} {cs' : Array Value} (h : Blk w g t cs) (h' : Blk w g' t' cs') (hne : t ≠ t') : g ≠ g' := by
  rintro rfl
  unfold Blk at h h'
  rw [h] at h'
  injection h' with h'
  injection h' with _ ht
  exact hne ht
end

theorem only_refl (w : World) (row : Option Nat) : w.grownBy w row := World.grownBy.refl w row
theorem only_drewN {a w : World} {row : Option Nat} (h : a.grownBy w row) (n : Nat) : a.grownBy (w.drewN n) row := ⟨h.os, h.tape, h.output, h.size, h.block⟩
theorem only_drew {a w : World} {row : Option Nat} (h : a.grownBy w row) : a.grownBy w.drew row := ⟨h.os, h.tape, h.output, h.size, h.block⟩
theorem only_alloc {a w : World} {row : Option Nat} (h : a.grownBy w row) (o : Obj) : a.grownBy (w.alloc o) row :=
  ⟨h.os, h.tape, h.output, Nat.le_trans h.size (by simp), fun i hi hne => (Below.heap_alloc w o i (Nat.lt_of_lt_of_le hi h.size)).trans (h.block i hi hne)⟩
theorem only_setCell {a w : World} {g : Nat} (h : a.grownBy w (some g)) {p : Addr} (hp : p.block = g ∨ a.heap.size ≤ p.block) (u : Value) : a.grownBy (w.setCell p u) (some g) :=
  ⟨h.os, h.tape, h.output, by simpa [World.setCell] using h.size, fun i hi hne => (Below.heap_setCell w p u i (by
    rintro rfl
    rcases hp with hp | hp
    · exact hne (by rw [hp])
    · omega)).trans (h.block i hi hne)⟩
theorem only_of_below {a w : World} (h : Below a.heap.size a w) (row : Option Nat) : a.grownBy w row := ⟨h.os, h.tape, h.output, h.size, fun i hi _ => h.block i hi⟩
theorem only_trans {a b c : World} {row : Option Nat} (h : a.grownBy b row) (k : b.grownBy c row) : a.grownBy c row :=
  ⟨k.os.trans h.os, k.tape.trans h.tape, k.output.trans h.output, Nat.le_trans h.size k.size, fun i hi hne => (k.block i (Nat.lt_of_lt_of_le hi h.size) hne).trans (h.block i hi hne)⟩
theorem below_of_new {a b : World} {B g : Nat} (h : a.grownBy b (some g)) (hg : B ≤ g) (hB : B ≤ a.heap.size) : Below B a b :=
  ⟨h.os, h.tape, h.output, h.size, fun i hi => h.block i (by omega) (by intro e; injection e with e; omega)⟩

/-- The digits ds lie at the head of the array that a slice's address A names. -/
def Dig (w : World) (A : Option Addr) (ds : List UInt32) : Prop :=
  ds = [] ∨ ∃ (g : Nat) (cs : Array Value), A = some ⟨g, 0, none⟩ ∧ Blk w g 71 cs ∧ ∀ (j : Nat) (u : UInt32), ds[j]? = some u → cs[j]? = some (.int .u32 u.toNat)

section
variable {w w' : World} {A : Option Addr} {ds : List UInt32}
theorem Dig.nil : Dig w A [] := .inl rfl
theorem Dig.keep (h : Dig w A ds) (hk : ∀ g cs, Blk w g 71 cs → Blk w' g 71 cs) : Dig w' A ds := by
  rcases h with h | ⟨g, cs, h1, h2, h3⟩
  · exact .inl h
  · exact .inr ⟨g, cs, h1, hk g cs h2, h3⟩
theorem Dig.take (h : Dig w A ds) (k : Nat) : Dig w A (ds.take k) := by
  rcases h with h | ⟨g, cs, h1, h2, h3⟩
  · subst h; exact .inl (by simp)
  · refine .inr ⟨g, cs, h1, h2, fun j u hj => h3 j u ?_⟩
    rw [List.getElem?_take] at hj
    split at hj
    · exact hj
    · cases hj
end

/-- Block p is a number's: its sign and its digits' slice. -/
def Cell (w : World) (p : Nat) (s : Bool) (A : Option Addr) (len cap : Nat) : Prop := Blk w p 62 #[.bool s, .slice A len cap]
def Num (w : World) (p n : Nat) : Prop := ∃ (A : Option Addr) (cap : Nat), Cell w p false A (digs n).length cap ∧ Dig w A (digs n) ∧ (digs n).length ≤ cap

section
variable {w w' : World} {p n : Nat}
theorem Num.lt (h : Num w p n) : p < w.heap.size := by obtain ⟨_, _, h, _⟩ := h; exact Blk.lt h
theorem Num.keep (h : Num w p n) (hk : ∀ g t cs, Blk w g t cs → (g = p ∨ t = 71) → Blk w' g t cs) : Num w' p n := by
  obtain ⟨A, cap, h1, h2, h3⟩ := h
  exact ⟨A, cap, hk _ _ _ h1 (.inl rfl), h2.keep fun g cs hb => hk _ _ _ hb (.inr rfl), h3⟩
theorem Num.below (h : Num w p n) (hb : Below w.heap.size w w') : Num w' p n := h.keep fun _ _ _ hk _ => hk.below hb hk.lt
theorem Num.drew (h : Num w p n) : Num w.drew p n := h
theorem Num.alloc (h : Num w p n) (o : Obj) : Num (w.alloc o) p n := h.keep fun _ _ _ hk _ => hk.alloc o
theorem Num.grown {z : Nat} {cs : Array Value} (h : Num w p n) (hg : w.grownBy w' (some z)) (hz : Blk w z 62 cs) (hne : p ≠ z) : Num w' p n :=
  h.keep fun g t cs' hk hor => hk.grown hg (by
    intro e
    injection e with e
    rcases hor with h1 | h1
    · exact hne (h1.symm.trans e)
    · subst h1 e
      exact absurd rfl (Blk.ne_ hk hz (by decide)))
end
end Go.Proofs.Ytahhgeecikljdaa.Big
