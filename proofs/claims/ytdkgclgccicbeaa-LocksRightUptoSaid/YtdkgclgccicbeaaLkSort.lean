/-
  Numbers sorted and made compact in place, by the shelf's contracts.
-/
import Derived.Test.YtdkgclgccicbeaaGInts
namespace Go.Proofs.Ytdkgclgccicbeaa.Lk
set_option linter.unusedVariables false
set_option linter.unusedSimpArgs false
open Go.RowKit Go.Sort Go.Shelf Mem Gt

section
theorem below_putZ {B g : Nat} {enc : Int → Value} {d : Array Int} {W : World} {q : Nat} (hB : B ≤ g) : Below B W (putRow enc (Sort.ahead W q) g 0 d) := by
  refine ⟨rfl, rfl, rfl, by simp [putRow, mapBlock, Sort.ahead], fun b hb => ?_⟩
  simp only [putRow, mapBlock, Sort.ahead, Array.getElem?_modify]
  rw [if_neg (by omega)]
theorem below_growZ {B : Nat} {W V : World} (h : Below B W V) (hB : B ≤ V.heap.size) (os : Array Obj) : Below B W (grow V os) :=
  ⟨h.os, h.tape, h.output, Nat.le_trans h.size (by simp [grow]), fun b hb => by
    rw [← h.block b hb]; simp only [grow]; rw [Array.getElem?_append_left (by omega)]⟩
def sortZ (xs : List Int) : List Int := xs.mergeSort fun x y => decide (x ≤ y)
theorem sortZ_len (xs : List Int) : (sortZ xs).length = xs.length := (List.mergeSort_perm _ _).length_eq
theorem compact_len {xs : List Int} (h : xs.Nodup) : (Lib.compact (sortZ xs)).length = xs.length := by
  have hn : (sortZ xs).Nodup := (List.mergeSort_perm xs _).nodup_iff.2 h
  unfold Lib.compact Lib.compactUpTo
  rw [List.length_map, List.filter_eq_self.2 ?_, List.length_range, sortZ_len]
  intro i hi
  have hi := List.mem_range.1 hi
  unfold Lib.keeps
  rw [decide_eq_true_eq]
  by_cases h0 : i = 0
  · exact .inl h0
  · right
    intro e
    have h1 : i - 1 < (sortZ xs).length := by omega
    rw [getElem!_pos _ i (by simpa using hi), getElem!_pos _ (i - 1) (by simpa using h1)] at e
    simp only [List.getElem_toArray] at e
    exact (List.pairwise_iff_getElem.1 hn) (i - 1) i h1 hi (by omega) e.symm
/-- The sorted row lies there. -/
def SortedAt (B : Nat) (A : Option Addr) (n : Nat) (xs : List Int) (w : World) : Prop := n = 0 ∨ ∃ g, A = some ⟨g, 0, none⟩ ∧ B ≤ g ∧ g < w.heap.size ∧ Holds (Value.int .i64) w g 0 (sortZ xs).toArray
theorem sort_z (B : Nat) (A : Option Addr) (xs : List Int) (n c : Nat) (W : World) (hn : xs.length = n) (hb : n ≤ 4194304) (hT : ZTab W B (.slice A n c) xs) (hB : B ≤ W.heap.size) :
    Calls Try.prog 14 #[.slice A n c] W fun e w' => e = .returned (.tuple #[]) ∧ SortedAt B A n xs w' ∧ Below B W w' := by
  rcases Nat.eq_zero_or_pos n with h0 | h0
  · subst h0
    refine (Try.slices_Sort_int_none A c W).mono ?_
    rintro e w ⟨rfl, rfl⟩
    exact ⟨rfl, .inl rfl, Below.refl _ _⟩
  · obtain ⟨g, x, rfl, hBg, hgl, -⟩ := hT.put hn (k := 0) h0
    have hH : Holds (Value.int .i64) W g 0 xs.toArray := by
      intro j hj
      have hj' : j < xs.length := by simpa using hj
      obtain ⟨g', y, e, -, -, hy, hc, hf, -⟩ := hT.put hn (k := j) (by omega)
      injection e with e
      injection e with e1
      subst e1
      refine ⟨?_, by rw [Nat.zero_add]; exact hf⟩
      rw [Nat.zero_add, hc, getElem!_pos xs.toArray j hj]
      have := (List.getElem?_eq_some_iff.1 hy).2
      simp [← this]
    have H := Try.slices_Sort_int g 0 c xs W hH hgl (by omega)
    rw [hn] at H
    refine H.mono ?_
    rintro e w ⟨rfl, q, os, rfl⟩
    have hp := Sort.holds_putRow (Value.int .i64) (Sort.ahead W q) g 0 xs.toArray (sortZ xs).toArray (Sort.holds_ahead _ _ _ _ _ _ hH) (by simp [sortZ_len])
    have hbb : Below B W (putRow (Value.int .i64) (Sort.ahead W q) g 0 (sortZ xs).toArray) := below_putZ hBg
    have hsz : (putRow (Value.int .i64) (Sort.ahead W q) g 0 (sortZ xs).toArray).heap.size = W.heap.size := by simp [putRow, Sort.mapBlock, Sort.ahead]
    have hgr : Below W.heap.size (putRow (Value.int .i64) (Sort.ahead W q) g 0 (sortZ xs).toArray) (grow (putRow (Value.int .i64) (Sort.ahead W q) g 0 (sortZ xs).toArray) os) := below_growZ (Below.refl _ _) (by rw [hsz]; exact Nat.le_refl _) os
    refine ⟨rfl, .inr ⟨g, rfl, hBg, Nat.lt_of_lt_of_le hgl (Nat.le_trans (Nat.le_of_eq hsz.symm) hgr.size), fun j hj => ?_⟩, below_growZ hbb (by rw [hsz]; omega) os⟩
    obtain ⟨h1, h2⟩ := hp j hj
    exact ⟨(hgr.cell (p := ⟨g, 0 + j, none⟩) hgl).trans h1, (Below.frozen (p := ⟨g, 0 + j, none⟩) hgr hgl).trans h2⟩
theorem compact_c (B : Nat) (A : Option Addr) (xs : List Int) (n c : Nat) (W : World) (hn : xs.length = n) (hb : n ≤ 4194304) (hc : n ≤ c) (hS : SortedAt B A n xs W) (hd : xs.Nodup) :
    Calls Try.prog 15 #[.slice A n c] W fun e w' => e = .returned (.slice A n c) ∧ Below B W w' := by
  rcases hS with h0 | ⟨g, rfl, hBg, hgl, hH⟩
  · subst h0
    refine (Try.slices_Compact_int_empty A c W).mono ?_
    rintro e w ⟨rfl, rfl⟩
    exact ⟨rfl, Below.refl _ _⟩
  · have H := Try.slices_Compact_int g 0 c (sortZ xs) W hH (by rw [sortZ_len]; omega) (by rw [sortZ_len]; omega)
    rw [compact_len hd, sortZ_len, hn] at H
    refine H.mono ?_
    rintro e w ⟨rfl, q, rfl⟩
    exact ⟨rfl, below_putZ hBg⟩
theorem SortedAt.drew {B : Nat} {A : Option Addr} {n : Nat} {xs : List Int} {w : World} (h : SortedAt B A n xs w) : SortedAt B A n xs w.drew := by
  rcases h with h0 | ⟨g, rfl, h1, h2, h3⟩
  · exact .inl h0
  · exact .inr ⟨g, rfl, h1, h2, h3⟩
end
end Go.Proofs.Ytdkgclgccicbeaa.Lk
