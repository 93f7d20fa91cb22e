/-
  slices.Equal of numbers.
-/
import Derived.Test.YthebilmeehnkpaaMem
import Derived.Test.YthebilmeehnkpaaJpPure
import Derived.Test.YthebilmeehnkpaaShelf
namespace Go.Proofs.Ythebilmeehnkpaa.Jump
set_option linter.unusedVariables false
set_option linter.unusedSimpArgs false
open Go.RowKit Mem

def Gave (v : Value) (W : World) (e : Ending) (W' : World) : Prop := e = .returned v ∧ Below W.heap.size W W'

/-- The cells of numbers, as the shelf's contracts take them. -/
theorem reads_cells {W : World} {A : Option Addr} {l : List Int} (h : Reads W A (l.map (Value.int .i64))) (h0 : 0 < l.length) : ∃ b o, A = some ⟨b, o, none⟩ ∧ b < W.heap.size ∧ ∀ j, j < l.length → W.cell? ⟨b, o + j, none⟩ = some (.int .i64 (l.getD j 0)) := by
  have key : ∀ j (hj : j < l.length), ∃ b o, A = some ⟨b, o, none⟩ ∧ b < W.heap.size ∧ W.cell? ⟨b, o + j, none⟩ = some (.int .i64 (l.getD j 0)) := fun j hj => by
    obtain ⟨b, o, h1, h2, h3⟩ := h j (.int .i64 l[j]) (by rw [List.getElem?_map, List.getElem?_eq_getElem hj]; rfl)
    exact ⟨b, o, h1, h2, by rw [h3, List.getD_eq_getElem?_getD, List.getElem?_eq_getElem hj]; rfl⟩
  obtain ⟨b, o, h1, h2, _⟩ := key 0 h0
  refine ⟨b, o, h1, h2, fun j hj => ?_⟩
  obtain ⟨b', o', e, _, h3⟩ := key j hj
  rw [h1] at e
  injection e with e
  injection e with e1 e2
  subst e1 e2
  exact h3
theorem contains_c (A : Option Addr) (l : List Int) (n ca : Nat) (x : Int) (W : World) (hn : l.length = n) (hbig : n ≤ 9223372036854775807) (hx : Reads W A (l.map (Value.int .i64))) (c : Bool) (hc : decide (x ∈ l) = c) :
    Calls Try.prog 24 #[.slice A n ca, .int .i64 x] W fun e w' => e = .returned (.bool c) ∧ W = w' := by
  subst hn hc
  rcases Nat.eq_zero_or_pos l.length with h0 | h0
  · rw [h0]
    have e := List.eq_nil_of_length_eq_zero h0
    subst e
    refine (Try.slices_Contains_int_empty A ca x W).mono ?_
    rintro e w ⟨rfl, rfl⟩
    exact ⟨rfl, rfl⟩
  · obtain ⟨b, o, rfl, _, hc⟩ := reads_cells hx h0
    refine (Try.slices_Contains_int b o l.length ca l x W (Nat.le_refl _) hbig hc).mono ?_
    rintro e w ⟨rfl, rfl⟩
    refine ⟨?_, rfl⟩
    rw [List.take_length]
    congr 2
    rw [Bool.eq_iff_iff]; simp

theorem equalZ_c (A B : Option Addr) (xs ys : List Int) (n m ca cb : Nat) (W : World) (hn : xs.length = n) (hm : ys.length = m) (hb1 : n ≤ 9223372036854775807) (hb2 : m ≤ 9223372036854775807) (hx : Reads W A (xs.map (Value.int .i64))) (hy : Reads W B (ys.map (Value.int .i64))) :
    Calls Try.prog 25 #[.slice A n ca, .slice B m cb] W (Gave (.bool (decide (xs = ys))) W) := by
  by_cases h : n = m
  · subst h
    by_cases h0 : n = 0
    · subst h0
      obtain rfl := List.eq_nil_of_length_eq_zero hn
      obtain rfl := List.eq_nil_of_length_eq_zero hm
      refine (Try.slices_Equal_int_empty A B ca 0 cb W hb2).mono ?_
      rintro e w ⟨rfl, rfl⟩
      exact ⟨rfl, Below.refl _ _⟩
    · obtain ⟨b1, o1, rfl, _, c1⟩ := reads_cells hx (by omega)
      obtain ⟨b2, o2, rfl, _, c2⟩ := reads_cells hy (by omega)
      refine (Try.slices_Equal_int b1 o1 n ca b2 o2 n cb xs ys W (by omega) (by omega) hb1 hb2 c1 c2).mono ?_
      rintro e w ⟨rfl, q, rfl⟩
      refine ⟨?_, below_drewN (Below.refl _ _) _⟩
      rw [List.take_of_length_le (by omega), List.take_of_length_le (by omega)]
      congr 2
      rw [Bool.eq_iff_iff, beq_iff_eq, decide_eq_true_iff]
  · refine (Try.slices_Equal_int_lens A B n ca m cb W h).mono ?_
    rintro e w ⟨rfl, rfl⟩
    exact ⟨by rw [decide_eq_false (fun e => h (by rw [← hn, ← hm, e]))], Below.refl _ _⟩
end Go.Proofs.Ythebilmeehnkpaa.Jump
