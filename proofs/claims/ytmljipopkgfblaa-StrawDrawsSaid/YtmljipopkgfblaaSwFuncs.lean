/-
  slices.Clone, Delete and Index of numbers.
-/
import Derived.Test.YtmljipopkgfblaaSwEqZ
import Derived.Test.YtmljipopkgfblaaShelf
import Derived.Sort.Grow
namespace Go.Proofs.Ytmljipopkgfblaa.Straw
set_option linter.unusedVariables false
set_option linter.unusedSimpArgs false
open Go.RowKit Mem
open Go.Sort (grow alloc_eq_grow grow_grow putRow Holds)

theorem infoI : (Try.prog.info? 3).map (fun i => (i.zero, i.size, i.bytes)) = some (some (.int .i64 0), 1, 8) := by kernel_rfl
theorem elemI : Elem 27 3 8 := by
  obtain ⟨i, hi, hz0, hz1, hz2⟩ := info_parts infoI
  exact ⟨Try.underlying27, i, _, hi, hz0, hz1, hz2, rfl⟩
/-- v is a slice of the call's own (block B or later) of the numbers l. -/
def ZTab (W : World) (B : Nat) (v : Value) (l : List Int) : Prop := Grows W B 3 v (l.map (Value.int .i64))
section
variable {W V : World} {B : Nat} {v : Value} {l : List Int}
theorem ZTab.nil (W : World) (B : Nat) : ZTab W B (.slice none 0 0) [] := Grows.nil W B _
theorem ZTab.form (h : ZTab W B v l) : ∃ A cap, v = .slice A l.length cap ∧ l.length ≤ cap ∧ cap ≤ maxLen := by
  have := Grows.form h; simpa using this
theorem ZTab.later (h : ZTab W B v l) (hb : Below W.heap.size W V) : ZTab V B v l := Grows.later h hb
theorem ZTab.drew (h : ZTab W B v l) : ZTab W.drew B v l := h
theorem ZTab.lt (h : ZTab W B v l) : ∀ k, v.ownBlock = some k → B ≤ k ∧ k < W.heap.size := Grows.lt h
theorem ZTab.kept {row : Option Nat} (h : ZTab W B v l) (hg : W.grownBy V row) (hne : v.ownBlock = none ∨ v.ownBlock ≠ row) : ZTab V B v l := Grows.kept h hg hne
theorem ZTab.reads {A : Option Addr} {n cap : Nat} (h : ZTab W B (.slice A n cap) l) : Reads W A (l.map (Value.int .i64)) := Grows.reads h
end
set_option maxRecDepth 100000 in
theorem z_none {W : World} {l : List Int} (h : Reads W none (l.map (Value.int .i64))) : l = [] := by
  cases l with
  | nil => rfl
  | cons x l => obtain ⟨b, o, h1, _⟩ := h 0 (.int .i64 x) rfl; cases h1
theorem z_of_row {W : World} {B : Nat} {v : Value} {l : List Int} {n : Nat} (hn : l.length = n) (h : W.ownsRow B 3 1 v n (l.map (Value.int .i64))) : ∃ A c, v = .slice A n c ∧ ZTab W B (.slice A n c) l := by
  have hz : ZTab W B v l := by unfold ZTab Grows; rw [List.length_map, hn]; exact h
  obtain ⟨A, c, e, _, _⟩ := hz.form
  rw [hn] at e
  subst e
  exact ⟨A, c, rfl, hz⟩
theorem clone_z (A : Option Addr) (l : List Int) (n c : Nat) (W : World) (hn : l.length = n) (hbig : n ≤ 17592186044416) (hx : Reads W A (l.map (Value.int .i64))) :
    Calls Try.prog 19 #[.slice A n c] W fun e W' => ∃ A' c', e = .returned (.slice A' n c') ∧ ZTab W' W.heap.size (.slice A' n c') l ∧ Below W.heap.size W W' := by
  cases A with
  | none =>
    obtain rfl := z_none hx
    obtain rfl : n = 0 := hn.symm
    refine (Try.slices_Clone_int_nil 0 c W).mono ?_
    rintro e w ⟨rfl, rfl⟩
    exact ⟨none, 0, rfl, ZTab.nil _ _, Below.refl _ _⟩
  | some a =>
    rcases Nat.eq_zero_or_pos n with h0 | h0
    · subst h0
      obtain rfl := List.eq_nil_of_length_eq_zero hn
      refine (Try.slices_Clone_int_zero a c W).mono ?_
      rintro e w ⟨v, rfl, hr, _, hb⟩
      obtain ⟨A', c', rfl, hz⟩ := z_of_row (l := []) rfl hr
      exact ⟨A', c', rfl, hz, hb⟩
    · obtain ⟨b, o, e, _, hc⟩ := reads_cells hx (by omega)
      injection e with e
      subst e
      refine (Try.slices_Clone_int b o n c l W (by omega) (by omega) hc).mono ?_
      rintro e w ⟨v, rfl, hr, _, hb⟩
      rw [List.take_of_length_le (by omega)] at hr
      obtain ⟨A', c', rfl, hz⟩ := z_of_row hn hr
      exact ⟨A', c', rfl, hz, hb⟩
theorem z_head {W : World} {B : Nat} {A : Option Addr} {n c : Nat} {l : List Int} (h : ZTab W B (.slice A n c) l) (h0 : 0 < l.length) : ∃ g, A = some ⟨g, 0, none⟩ ∧ n = l.length ∧ B ≤ g ∧ g < W.heap.size ∧ n ≤ c := by
  obtain ⟨A', c', e, hc, _⟩ := h.form
  injection e with e1 e2 e3
  rcases h.2 with ⟨e, hn⟩ | ⟨g, cap', cur, e, hb, hg, _⟩
  · simp at hn; subst hn; simp at h0
  · injection e with e4
    subst e4
    exact ⟨g, rfl, e2, hb, (Array.getElem?_eq_some_iff.1 hg).1, by omega⟩
theorem z_holds {W : World} {B g n c : Nat} {l : List Int} (h : ZTab W B (.slice (some ⟨g, 0, none⟩) n c) l) (hn : n = l.length) : Holds (Value.int .i64) W g 0 l.toArray := by
  intro j hj
  have hj' : j < l.length := by simpa using hj
  subst hn
  have h' : W.ownsRow B 3 1 (.slice (some ⟨g, 0, none⟩) l.length c) l.length (l.map (Value.int .i64)) := by
    have h3 := h; unfold ZTab Grows at h3; rw [List.length_map] at h3; exact h3
  refine ⟨?_, by rw [Nat.zero_add]; exact h'.frozenAt j⟩
  rw [Nat.zero_add, h'.cellAt j (by omega), List.getElem?_map, List.getElem?_eq_getElem hj', getElem!_pos l.toArray j hj]
  simp
theorem holds_reads {W : World} {g : Nat} {l : List Int} (h : Holds (Value.int .i64) W g 0 l.toArray) {k : Nat} {l' : List Int} (hl : l' = l.take k) : Reads W (some ⟨g, 0, none⟩) (l'.map (Value.int .i64)) := fun j v hv => by
  subst hl
  rw [List.getElem?_map, List.getElem?_take] at hv
  by_cases hj : j < k
  · rw [if_pos hj] at hv
    cases e : l[j]? with
    | none => rw [e] at hv; cases hv
    | some x =>
      rw [e] at hv
      injection hv with hv
      subst hv
      obtain ⟨h1, rfl⟩ := List.getElem?_eq_some_iff.1 e
      have := (h j (by simpa using h1)).1
      rw [getElem!_pos l.toArray j (by simpa using h1)] at this
      refine ⟨g, 0, rfl, World.block_lt_of_cell? _ _ this, ?_⟩
      rw [this]; simp
  · rw [if_neg hj] at hv; cases hv
theorem below_put {B : Nat} {W : World} {g off q : Nat} {d : Array Int} (hg : B ≤ g) : Below B W (putRow (Value.int .i64) (Sort.ahead W q) g off d) := by
  refine ⟨rfl, rfl, rfl, by simp [putRow, Sort.mapBlock], fun b hb => ?_⟩
  simp only [putRow, Sort.mapBlock, Array.getElem?_modify]
  rw [if_neg (by omega)]; rfl
/-- slices.Delete(v, x, x+1). -/
theorem delete_z (B : Nat) (A : Option Addr) (l : List Int) (n c x : Nat) (W : World) (hn : l.length = n) (hbig : n ≤ 400) (hz : ZTab W B (.slice A n c) l) (hx : x < n) :
    Calls Try.prog 22 #[.slice A n c, .int .i64 x, .int .i64 ((x : Int) + 1)] W fun e W' => e = .returned (.slice A (n - 1) c) ∧ Reads W' A ((l.take x ++ l.drop (x + 1)).map (Value.int .i64)) ∧ Below B W W' := by
  subst hn
  obtain ⟨g, rfl, _, hg, _, hc⟩ := z_head hz (by omega)
  have hH := z_holds hz rfl
  have hm : c ≤ 9223372036854775807 := by
    obtain ⟨A', c', e, _, h2⟩ := hz.form
    simp only [Value.slice.injEq] at e
    unfold maxLen at h2; omega
  have H := Try.slices_Delete_int g 0 c x (x + 1) l W hH hc hm (by omega) (by omega)
  rw [show ((x + 1 : Nat) : Int) = (x : Int) + 1 by omega, show l.length - (x + 1 - x) = l.length - 1 by omega] at H
  refine H.mono ?_
  rintro e w ⟨rfl, q, rfl⟩
  refine ⟨rfl, ?_, below_put hg⟩
  have hlen : (l.take x ++ l.drop (x + 1)).length = l.length - 1 := by simp; omega
  refine holds_reads (Sort.holds_putRow (Value.int .i64) (Sort.ahead W q) g 0 l.toArray _ (Sort.holds_ahead _ _ _ _ _ _ hH) (by simp; omega)) (k := l.length - 1) ?_
  rw [← hlen, List.take_left' rfl]
theorem index_z (A : Option Addr) (l : List Int) (n c x : Nat) (v : Int) (W : World) (hn : l.length = n) (hbig : n ≤ 400) (hr : Reads W A (l.map (Value.int .i64))) (hd : l.Nodup) (hx : l[x]? = some v) :
    Calls Try.prog 21 #[.slice A n c, .int .i64 v] W fun e W' => e = .returned (.int .i64 x) ∧ W = W' := by
  have hxl := (List.getElem?_eq_some_iff.1 hx).1
  obtain ⟨b, o, rfl, _, hc⟩ := reads_cells hr (by omega)
  refine (Try.slices_Index_int b o n c l v W (by omega) (by omega) hc).mono ?_
  rintro e w ⟨rfl, rfl⟩
  refine ⟨?_, rfl⟩
  obtain ⟨_, hxv⟩ := List.getElem?_eq_some_iff.1 hx
  rw [Lib.idxOf_hit l n x v (by omega) (by omega) (by rw [List.getD_eq_getElem?_getD, hx]; rfl) (fun j hj => by
    have hj' : j < l.length := by omega
    rw [List.getD_eq_getElem?_getD, List.getElem?_eq_getElem hj']
    have := List.pairwise_iff_getElem.1 hd j x hj' hxl hj
    rw [hxv] at this
    exact this)]
end Go.Proofs.Ytmljipopkgfblaa.Straw
