/-
  Numbers of a reckoning that lie side by side, and a slice of numbers that grows beside them.
-/
import Derived.Test.YtjaacohnnplmdaaStInts
import Derived.Test.YtjaacohnnplmdaaJpPure
import Derived.Test.YtjaacohnnplmdaaBigMod
import Derived.Test.YtjaacohnnplmdaaBigCalc
import Derived.Test.YtjaacohnnplmdaaBigQuoW
namespace Go.Proofs.Ytjaacohnnplmdaa.Jump
set_option linter.unusedVariables false
set_option linter.unusedSimpArgs false
open Go.RowKit Big
open Stripe (ITab nat64)

def bks (key : UInt64) (i : Nat) : List Nat := (List.range i).map (bk key)
theorem bks_len (key : UInt64) (i : Nat) : (bks key i).length = i := by simp [bks]
theorem bks_succ (key : UInt64) (i : Nat) : bks key (i + 1) = bks key i ++ [bk key i] := by simp [bks, List.range_succ]
theorem bks_all (key : UInt64) (m : Nat) : (bks key (cnt key m)).map nat64 = (jumps key m).map (Value.int .i64) := by
  unfold bks jumps
  rw [List.map_map, List.map_map]; rfl
theorem tab_apart {w : World} {B p : Nat} {v : Value} {l : List Nat} (hT : ITab w B v l) (hs : Slot w p) : v.ownBlock = none ∨ v.ownBlock ≠ some p := by
  rcases hT.2 with ⟨rfl, _⟩ | ⟨g, cap, cur, rfl, _, hg, _⟩
  · exact .inl rfl
  · right
    intro e
    have e2 : g = p := by injection e
    subst e2
    obtain ⟨a, b, hb, _⟩ := hs
    exact absurd rfl (Blk.ne_ (show Blk w g 3 cur from hg) hb (by decide))
theorem num_apart {w w' : World} {B p n : Nat} {v : Value} {l : List Nat} (h : Num w p n) (hT : ITab w B v l) (hg : w.grownBy w' v.ownBlock) : Num w' p n :=
  h.keep fun g t cs hk hor => hk.grown hg (by
    intro e
    rcases hT.2 with ⟨rfl, _⟩ | ⟨g', cap, cur, rfl, _, hg', _⟩
    · cases e
    · have e2 : g = g' := by injection e
      subst e2
      rcases hor with e3 | e3
      · subst e3
        obtain ⟨a, b, hb, _⟩ := h.slot
        exact absurd rfl (Blk.ne_ (show Blk w g 3 cur from hg') hb (by decide))
      · subst e3
        exact absurd rfl (Blk.ne_ hk (show Blk w g 3 cur from hg') (by decide)))
theorem tab_kept {W V : World} {B : Nat} {v : Value} {l : List Nat} {row : Option Nat} (h : ITab W B v l) (hg : W.grownBy V row) (hne : v.ownBlock = none ∨ v.ownBlock ≠ row) : ITab V B v l := Mem.Grows.kept h hg hne
/-- The slice v of the call's own holds l; each pointer of L (the call's own, no two alike) leads to its number. -/
def Bag (W : World) (v : Value) (l : List Nat) (L : List (Nat × Nat)) (w : World) : Prop :=
  Below W.heap.size W w ∧ ITab w W.heap.size v l ∧ (∀ x ∈ L, W.heap.size ≤ x.1 ∧ Num w x.1 x.2) ∧ (L.map Prod.fst).Nodup
section
variable {W w w' : World} {v : Value} {l : List Nat} {L L' : List (Nat × Nat)} {p q n m : Nat} {e : Ending} {x y z : Nat × Nat}
theorem Bag.start (W : World) : Bag W (.slice none 0 0) [] [] W := ⟨Below.refl _ _, ITab.nil _ _, fun x hx => by simp at hx, by simp⟩
theorem Bag.num (h : Bag W v l L w) (hm : (p, n) ∈ L) : Num w p n := (h.2.2.1 _ hm).2
theorem Bag.below (h : Bag W v l L w) (hb : Below w.heap.size w w') : Bag W v l L w' :=
  ⟨h.1.trans (hb.mono h.1.size), h.2.1.later hb, fun x hx => ⟨(h.2.2.1 x hx).1, (h.2.2.1 x hx).2.below hb⟩, h.2.2.2⟩
theorem Bag.add (h : Bag W v l L w) (hb : Below w.heap.size w w') (hq : w.heap.size ≤ q) (hn : Num w' q n) : Bag W v l ((q, n) :: L) w' := by
  have h2 := h.below hb
  refine ⟨h2.1, h2.2.1, ?_, ?_⟩
  · intro x hx
    rcases List.mem_cons.1 hx with rfl | hx
    · exact ⟨Nat.le_trans h.1.size hq, hn⟩
    · exact h2.2.2.1 x hx
  · rw [List.map_cons, List.nodup_cons]
    refine ⟨fun hin => ?_, h.2.2.2⟩
    obtain ⟨x, hx, hxe⟩ := List.mem_map.1 hin
    have h3 := (h.2.2.1 x hx).2.lt
    have h4 : x.1 = q := hxe
    omega
theorem Bag.fresh (h : Bag W v l L w) (hf : Fresh n w e w') : ∃ q, e = .returned (.pointer (some ⟨q, 0, none⟩)) ∧ Bag W v l ((q, n) :: L) w' := by
  obtain ⟨q, rfl, hq, hb, hn⟩ := hf
  exact ⟨q, rfl, h.add hb hq hn⟩
theorem num_zero (w : World) : Num (w.alloc (.cells #[.bool false, .slice none 0 0] 49)) w.heap.size 0 :=
  ⟨none, 0, by rw [digs_zero]; exact Blk.new _ _ _, by rw [digs_zero]; exact Dig.nil, by rw [digs_zero]; exact Nat.le_refl _⟩
theorem Bag.new (h : Bag W v l L w) : Bag W v l ((w.heap.size, 0) :: L) (w.alloc (.cells #[.bool false, .slice none 0 0] 49)) :=
  h.add ((Below.refl _ w).alloc (Nat.le_refl _) _) (Nat.le_refl _) (num_zero w)
theorem Bag.new1 (h : Bag W v l L w) : Bag W v l ((w.heap.size + 1, 0) :: (w.heap.size, 0) :: L) ((w.alloc (.cells #[.bool false, .slice none 0 0] 49)).alloc (.cells #[.bool false, .slice none 0 0] 49)) := by
  have := h.new.new
  rwa [show (w.alloc (.cells #[.bool false, .slice none 0 0] 49)).heap.size = w.heap.size + 1 by simp] at this
theorem Bag.trim (h : Bag W v l ((p, n) :: L) w) (ht : Trimmed p m w e w') : e = .returned (.pointer (some ⟨p, 0, none⟩)) ∧ Bag W v l ((p, m) :: L) w' := by
  obtain ⟨rfl, hg, hn⟩ := ht
  have hp := h.2.2.1 (p, n) (List.mem_cons_self ..)
  have hs : Slot w p := hp.2.slot
  have hnd := h.2.2.2
  rw [List.map_cons, List.nodup_cons] at hnd
  refine ⟨rfl, h.1.trans (below_of_new hg hp.1 h.1.size), tab_kept h.2.1 hg (tab_apart h.2.1 hs), ?_, ?_⟩
  · intro x hx
    rcases List.mem_cons.1 hx with rfl | hx
    · exact ⟨hp.1, hn⟩
    · have h3 := h.2.2.1 x (List.mem_cons_of_mem _ hx)
      refine ⟨h3.1, h3.2.slotgrown hg hs fun e => hnd.1 ?_⟩
      exact List.mem_map.2 ⟨x, hx, e⟩
  · rw [List.map_cons, List.nodup_cons]; exact hnd
theorem Bag.of (h : Bag W v l L w) (hs : ∀ x ∈ L', x ∈ L) (hn : (L'.map Prod.fst).Nodup) : Bag W v l L' w :=
  ⟨h.1, h.2.1, fun x hx => h.2.2.1 x (hs x hx), hn⟩
theorem Bag.tail (h : Bag W v l (x :: L) w) : Bag W v l L w := h.of (fun y hy => List.mem_cons_of_mem _ hy) (by have := h.2.2.2; rw [List.map_cons, List.nodup_cons] at this; exact this.2)
theorem Bag.swap (h : Bag W v l (x :: y :: L) w) : Bag W v l (y :: x :: L) w := by
  refine h.of (fun u hu => ?_) ?_
  · simp only [List.mem_cons] at hu ⊢
    rcases hu with h1 | h1 | h1
    · exact .inr (.inl h1)
    · exact .inl h1
    · exact .inr (.inr h1)
  · have := h.2.2.2
    simp only [List.map_cons, List.nodup_cons, List.mem_cons, not_or] at this ⊢
    exact ⟨⟨fun e => this.1.1 e.symm, this.2.1⟩, this.1.2, this.2.2⟩
theorem Bag.second (h : Bag W v l (x :: y :: L) w) : Bag W v l (x :: L) w := h.swap.tail
theorem Bag.into (h : Bag W v l (x :: L) w) (k : Bag W v l L w → Bag W v l L' w) (hs : ∀ u ∈ L', u ∈ L) : Bag W v l (x :: L') w := by
  have h1 := k h.tail
  refine h.of (fun u hu => ?_) ?_
  · rcases List.mem_cons.1 hu with e | e
    · rw [e]; exact List.mem_cons_self ..
    · exact List.mem_cons_of_mem _ (hs u e)
  · have h2 := h.2.2.2
    rw [List.map_cons, List.nodup_cons] at h2 ⊢
    refine ⟨fun hin => h2.1 ?_, h1.2.2.2⟩
    obtain ⟨u, hu, he⟩ := List.mem_map.1 hin
    exact List.mem_map.2 ⟨u, hs u hu, he⟩
/-- The third comes first. -/
theorem Bag.third (h : Bag W v l (x :: y :: z :: L) w) : Bag W v l (z :: x :: y :: L) w :=
  Bag.swap (h.into (fun k => k.swap) (fun u hu => by
    simp only [List.mem_cons] at hu ⊢
    rcases hu with h1 | h1 | h1
    · exact .inr (.inl h1)
    · exact .inl h1
    · exact .inr (.inr h1)))
theorem Bag.app {v' : Value} {l' : List Nat} (h : Bag W v l L w) (o : Obj) (hg : (w.alloc o).grownBy w' v.ownBlock) (hT : ITab w' W.heap.size v' l') : Bag W v' l' L w' := by
  have hb0 : Below w.heap.size w (w.alloc o) := (Below.refl _ w).alloc (Nat.le_refl _) o
  have h2 := h.below hb0
  refine ⟨h2.1.grown hg h2.1.size fun k hk => (h2.2.1.lt k hk).1, hT, fun x hx => ⟨(h2.2.2.1 x hx).1, num_apart (h2.2.2.1 x hx).2 h2.2.1 hg⟩, h.2.2.2⟩
end
end Go.Proofs.Ytjaacohnnplmdaa.Jump
