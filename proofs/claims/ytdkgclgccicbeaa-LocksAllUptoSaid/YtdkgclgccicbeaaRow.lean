/-
  Blocks that a call made: known whole; rows of bytes that it makes, fills and reads.
-/
import Derived.Test.YtdkgclgccicbeaaMem
import Derived.Laws.OwnMore
import Derived.Laws.Rows
import Derived.OwnWalk
import Derived.StillTailTactics
import Derived.IntWalk
namespace Go.Proofs.Ytdkgclgccicbeaa.Mem
set_option linter.unusedVariables false
open Go.RowKit

/-- Block g is known whole: its cells are cs. -/
def Known (W : World) (g : Nat) (t : TypeId) (cs : Array Value) : Prop := W.heap[g]? = some (.cells cs t (0, 0))
section
variable {W V : World} {g : Nat} {t : TypeId} {cs : Array Value}
theorem Known.lt (h : Known W g t cs) : g < W.heap.size := by
  rcases Nat.lt_or_ge g W.heap.size with h1 | h1
  · exact h1
  · unfold Known at h; rw [Array.getElem?_eq_none h1] at h; cases h
theorem Known.cell (h : Known W g t cs) (i : Nat) : W.cell? ⟨g, i, none⟩ = cs[i]? := cell_of_row W g i cs t (0, 0) h
theorem Known.free (h : Known W g t cs) (i : Nat) : W.frozen? ⟨g, i, none⟩ = false := by
  unfold Known at h; simp [World.frozen?, h]
theorem Known.made (W : World) (t : TypeId) (cs : Array Value) : Known (W.alloc (.cells cs t)) W.heap.size t cs := heap_alloc_new W _
theorem Known.drawn (h : Known W g t cs) (hd : Drawn W V) : Known V g t cs := by obtain ⟨q, rfl⟩ := hd; exact h
theorem Known.alloc (h : Known W g t cs) (o : Obj) : Known (W.alloc o) g t cs := (Below.heap_alloc W o g h.lt).trans h
theorem Known.put (h : Known W g t cs) (i : Nat) (u : Value) : Known (W.setCell ⟨g, i, none⟩ u) g t (cs.setIfInBounds i u) := by
  unfold Known at h ⊢
  simp [World.setCell, Array.getElem?_modify, h]
theorem Known.off (h : Known W g t cs) {p : Addr} (hp : g ≠ p.block) (u : Value) : Known (W.setCell p u) g t cs := (Below.heap_setCell W p u g hp).trans h
theorem Known.below {B : Nat} (h : Known W g t cs) (hb : Below B W V) (hg : g < B) : Known V g t cs := (hb.block g hg).trans h
theorem Known.later (h : Known W g t cs) (hb : Below W.heap.size W V) : Known V g t cs := h.below hb h.lt
end

theorem below_drew {B : Nat} {W V : World} (h : Below B W V) : Below B W V.drew := ⟨h.os, h.tape, h.output, h.size, h.block⟩
theorem Reads.drew {W : World} {A : Option Addr} {xs : List Value} (h : Reads W A xs) : Reads W.drew A xs := h

/-- Block g is a row of the bytes l. -/
def Own (W : World) (g : Nat) (l : List UInt8) : Prop := Known W g 5 (l.map byt).toArray
section
variable {W V : World} {g : Nat} {l : List UInt8}
theorem Own.lt (h : Own W g l) : g < W.heap.size := Known.lt h
theorem Own.at_ (h : Own W g l) {k : Nat} {x : UInt8} (hk : l[k]? = some x) : W.cell? ⟨g, k, none⟩ = some (.int .u8 (x.toNat : Int)) := by
  rw [Known.cell h]; simp [hk, byt]
theorem Own.free (h : Own W g l) (k : Nat) : W.frozen? ⟨g, k, none⟩ = false := Known.free h k
theorem Own.put (h : Own W g l) (k : Nat) (x : UInt8) : Own (W.setCell ⟨g, k, none⟩ (.int .u8 (x.toNat : Int))) g (l.set k x) := by
  have := Known.put h k (.int .u8 (x.toNat : Int))
  unfold Own
  rw [List.map_set]
  simpa [byt] using this
theorem Own.drawn (h : Own W g l) (hd : Drawn W V) : Own V g l := Known.drawn h hd
theorem Own.later (h : Own W g l) (hb : Below W.heap.size W V) : Own V g l := Known.later h hb
theorem Own.drew (h : Own W g l) : Own W.drew g l := h
theorem Own.alloc (h : Own W g l) (o : Obj) : Own (W.alloc o) g l := Known.alloc h o
theorem Own.off (h : Own W g l) {p : Addr} (hp : g ≠ p.block) (u : Value) : Own (W.setCell p u) g l := Known.off h hp u
theorem Own.reads (h : Own W g l) : Reads W (some ⟨g, 0, none⟩) (l.map byt) := fun k v hv => by
  refine ⟨g, 0, rfl, h.lt, ?_⟩
  rw [Nat.zero_add, Known.cell h]; simpa using hv
theorem Reads.take {A : Option Addr} {xs : List Value} (h : Reads W A xs) (n : Nat) : Reads W A (xs.take n) := fun k v hv => by
  rw [List.getElem?_take] at hv
  split at hv
  · exact h k v hv
  · cases hv
theorem Reads.takeB {A : Option Addr} {xs : List UInt8} (h : Reads W A (xs.map byt)) (n : Nat) : Reads W A ((xs.take n).map byt) := by
  rw [List.map_take]; exact h.take n
end

theorem info8 : (Try.prog.info? 5).map (fun i => (i.zero, i.size, i.bytes)) = some (some (.int .u8 0), 1, 1) := by kernel_rfl
theorem made8 (n : Nat) : madeCells #[Value.int .u8 0] n = Array.replicate n (byt 0) := by
  apply Array.ext_getElem?
  intro i
  by_cases h : i < n
  · simp [madeCells, h, byt, Nat.mod_one]
  · simp [madeCells, h]
theorem Own.made (W : World) (n : Nat) : Own (W.alloc (.cells (Array.replicate n (byt 0)) 5)) W.heap.size (List.replicate n 0) := by
  have h := Known.made W 5 (Array.replicate n (byt 0))
  unfold Own
  simpa using h
theorem Own.new (W : World) (l : List UInt8) : Own (W.alloc (.cells (l.map byt).toArray 5)) W.heap.size l := Known.made W _ _

theorem region_tail {P : Program} {id : Nat} {Q : Exit → Act → World → Prop} {a : Act} {w : World} {l : List Oper} (n : Nat) (hm : P.follows .mixedOrders = true) (hB : Region.lexTailB .any l.toArray n = true)
    (h : wpStill P l.toArray w.drew (fun a' => wpList P l.toArray Q (l.drop n) a' w.drew) (l.take n) a) : (Code.region id l.toArray true).wp P Q a w := wp_region_still_tail n hm hB h

/-- What a call returns that makes a slice of bytes and writes nowhere else. -/
def Gives (l : List UInt8) (W : World) (e : Ending) (W' : World) : Prop :=
  ∃ (A : Option Addr) (cap : Nat), e = .returned (.slice A l.length cap) ∧ l.length ≤ cap ∧ Reads W' A (l.map byt) ∧ Below W.heap.size W W' ∧ ∀ a, A = some a → W.heap.size ≤ a.block
theorem Reads.off {W : World} {A : Option Addr} {xs : List Value} (h : Reads W A xs) {p : Addr} (hp : ∀ a, A = some a → a.block ≠ p.block) (u : Value) : Reads (W.setCell p u) A xs := fun k v hv => by
  obtain ⟨b, o, h1, h2, h3⟩ := h k v hv
  refine ⟨b, o, h1, by simpa [World.setCell] using h2, ?_⟩
  have hne := hp _ h1
  rw [World.cell?_setCell_other W p _ u (fun e => hne (by rw [e]))]
  exact h3
theorem Reads.alloc {W : World} {A : Option Addr} {xs : List Value} (h : Reads W A xs) (o : Obj) : Reads (W.alloc o) A xs := h.below ((Below.refl _ _).alloc (Nat.le_refl _) _)
theorem Own.alloc2 {W : World} {g : Nat} {l : List UInt8} (h : Own W g l) (o : Obj) : Own (W.alloc o) g l := h.alloc o
end Go.Proofs.Ytdkgclgccicbeaa.Mem
