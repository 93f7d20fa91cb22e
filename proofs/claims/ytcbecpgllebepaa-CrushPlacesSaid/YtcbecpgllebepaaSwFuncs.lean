/-
  slices.Clone, Delete and Index of numbers.
-/
import Derived.Test.YtcbecpgllebepaaSwEqZ
import Derived.Test.YtcbecpgllebepaaShelf
import Derived.Sort.Grow
namespace Go.Proofs.Ytcbecpgllebepaa.Straw
set_option linter.unusedVariables false
set_option linter.unusedSimpArgs false
open Go.RowKit Mem
open Go.Sort (grow alloc_eq_grow grow_grow putRow Holds)

theorem infoI : (Try.prog.info? 3).map (fun i => (i.zero, i.size, i.bytes)) = some (some (.int .i64 0), 1, 8) := by kernel_rfl
theorem elemI : Elem 57 3 8 := by
  obtain ⟨i, hi, hz0, hz1, hz2⟩ := info_parts infoI
  exact ⟨Try.underlying57, i, _, hi, hz0, hz1, hz2, rfl⟩
/-- v is a slice of the call's own (block B or later) of the numbers l. -/
def ZTab (W : World) (B : Nat) (v : Value) (l : List Int) : Prop := Grows W B 3 v (l.map (Value.int .i64))
section
variable {W V : World} {B : Nat} {v : Value} {l : List Int}
theorem ZTab.nil (W : World) (B : Nat) : ZTab W B (.slice none 0 0) [] := Grows.nil W B _
theorem ZTab.form (h : ZTab W B v l) : ∃ A cap, v = .slice A l.length cap ∧ l.length ≤ cap ∧ cap ≤ maxLen := by
  have := Grows.form h; simpa using this
theorem ZTab.later (h : ZTab W B v l) (hb : Below W.heap.size W V) : ZTab V B v l := Grows.later h hb
theorem ZTab.drew (h : ZTab W B v l) : ZTab W.drew B v l := h
theorem ZTab.lt (h : ZTab W B v l) : ∀ k, v.ownBlock = some k → B ≤ k ∧ k < W.heap.size := Grows.lt h
theorem ZTab.kept {row : Option Nat} (h : ZTab W B v l) (hg : W.grownBy V row) (hne : v.ownBlock = none ∨ v.ownBlock ≠ row) : ZTab V B v l := Grows.kept h hg hne
theorem ZTab.reads {A : Option Addr} {n cap : Nat} (h : ZTab W B (.slice A n cap) l) : Reads W A (l.map (Value.int .i64)) := Grows.reads h
end
set_option maxRecDepth 100000 in
theorem z_none {W : World} {l : List Int} (h : Reads W none (l.map (Value.int .i64))) : l = [] := by
  cases l with
  | nil => rfl
  | cons x l => obtain ⟨b, o, h1, _⟩ := h 0 (.int .i64 x) rfl; cases h1
theorem z_of_row {W : World} {B : Nat} {v : Value} {l : List Int} {n : Nat} (hn : l.length = n) (h : W.ownsRow B 3 1 v n (l.map (Value.int .i64))) : ∃ A c, v = .slice A n c ∧ ZTab W B (.slice A n c) l := by
  have hz : ZTab W B v l := by unfold ZTab Grows; rw [List.length_map, hn]; exact h
  obtain ⟨A, c, e, _, _⟩ := hz.form
  rw [hn] at e
  subst e
  exact ⟨A, c, rfl, hz⟩
theorem z_head {W : World} {B : Nat} {A : Option Addr} {n c : Nat} {l : List Int} (h : ZTab W B (.slice A n c) l) (h0 : 0 < l.length) : ∃ g, A = some ⟨g, 0, none⟩ ∧ n = l.length ∧ B ≤ g ∧ g < W.heap.size ∧ n ≤ c := by
  obtain ⟨A', c', e, hc, _⟩ := h.form
  injection e with e1 e2 e3
  rcases h.2 with ⟨e, hn⟩ | ⟨g, cap', cur, e, hb, hg, _⟩
  · simp at hn; subst hn; simp at h0
  · injection e with e4
    subst e4
    exact ⟨g, rfl, e2, hb, (Array.getElem?_eq_some_iff.1 hg).1, by omega⟩
theorem z_holds {W : World} {B g n c : Nat} {l : List Int} (h : ZTab W B (.slice (some ⟨g, 0, none⟩) n c) l) (hn : n = l.length) : Holds (Value.int .i64) W g 0 l.toArray := by
  intro j hj
  have hj' : j < l.length := by simpa using hj
  subst hn
  have h' : W.ownsRow B 3 1 (.slice (some ⟨g, 0, none⟩) l.length c) l.length (l.map (Value.int .i64)) := by
    have h3 := h; unfold ZTab Grows at h3; rw [List.length_map] at h3; exact h3
  refine ⟨?_, by rw [Nat.zero_add]; exact h'.frozenAt j⟩
  rw [Nat.zero_add, h'.cellAt j (by omega), List.getElem?_map, List.getElem?_eq_getElem hj', getElem!_pos l.toArray j hj]
  simp
theorem holds_reads {W : World} {g : Nat} {l : List Int} (h : Holds (Value.int .i64) W g 0 l.toArray) {k : Nat} {l' : List Int} (hl : l' = l.take k) : Reads W (some ⟨g, 0, none⟩) (l'.map (Value.int .i64)) := fun j v hv => by
  subst hl
  rw [List.getElem?_map, List.getElem?_take] at hv
  by_cases hj : j < k
  · rw [if_pos hj] at hv
    cases e : l[j]? with
    | none => rw [e] at hv; cases hv
    | some x =>
      rw [e] at hv
      injection hv with hv
      subst hv
      obtain ⟨h1, rfl⟩ := List.getElem?_eq_some_iff.1 e
      have := (h j (by simpa using h1)).1
      rw [getElem!_pos l.toArray j (by simpa using h1)] at this
      refine ⟨g, 0, rfl, World.block_lt_of_cell? _ _ this, ?_⟩
      rw [this]; simp
  · rw [if_neg hj] at hv; cases hv
theorem below_put {B : Nat} {W : World} {g off q : Nat} {d : Array Int} (hg : B ≤ g) : Below B W (putRow (Value.int .i64) (Sort.ahead W q) g off d) := by
  refine ⟨rfl, rfl, rfl, by simp [putRow, Sort.mapBlock], fun b hb => ?_⟩
  simp only [putRow, Sort.mapBlock, Array.getElem?_modify]
  rw [if_neg (by omega)]; rfl
end Go.Proofs.Ytcbecpgllebepaa.Straw
