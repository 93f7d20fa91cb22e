/-
  slices.Clone of numbers that came in.
-/
import Derived.Test.YtahhgeecikljdaaTbCount
import Derived.Test.YtahhgeecikljdaaJpEqZ
namespace Go.Proofs.Ytahhgeecikljdaa.Tb
set_option linter.unusedVariables false
set_option linter.unusedSimpArgs false
open Go.RowKit Mem

theorem z_none {W : World} {l : List Int} (h : Reads W none (l.map (Value.int .i64))) : l = [] := by
  cases l with
  | nil => rfl
  | cons x l => obtain ⟨b, o, h1, _⟩ := h 0 (.int .i64 x) rfl; cases h1
set_option maxRecDepth 100000 in
theorem z_of_row {W : World} {B : Nat} {v : Value} {l : List Int} {n : Nat} (hn : l.length = n) (h : W.ownsRow B 3 1 v n (l.map (Value.int .i64))) : ∃ A c, v = .slice A n c ∧ n ≤ c ∧ Reads W A (l.map (Value.int .i64)) := by
  have hz : Grows W B 3 v (l.map (Value.int .i64)) := by unfold Grows; rw [List.length_map, hn]; exact h
  obtain ⟨A, c, e, h1, _⟩ := hz.form
  rw [List.length_map, hn] at e h1
  subst e
  exact ⟨A, c, rfl, h1, hz.reads⟩
/-- A copy of numbers. -/
def Copied (l : List Int) (n : Nat) (W : World) (e : Ending) (W' : World) : Prop := ∃ A' c', e = .returned (.slice A' n c') ∧ n ≤ c' ∧ Reads W' A' (l.map (Value.int .i64)) ∧ Below W.heap.size W W'
set_option maxRecDepth 100000 in
theorem clone_z (A : Option Addr) (l : List Int) (n c : Nat) (W : World) (hn : l.length = n) (hbig : n ≤ 17592186044416) (hx : Reads W A (l.map (Value.int .i64))) :
    Calls Try.prog 21 #[.slice A n c] W (Copied l n W) := by
  cases A with
  | none =>
    obtain rfl := z_none hx
    obtain rfl : n = 0 := hn.symm
    refine (Try.slices_Clone_int_nil 0 c W).mono ?_
    rintro e w ⟨rfl, rfl⟩
    exact ⟨none, 0, rfl, Nat.le_refl _, Reads.nil, Below.refl _ _⟩
  | some a =>
    rcases Nat.eq_zero_or_pos n with h0 | h0
    · subst h0
      obtain rfl := List.eq_nil_of_length_eq_zero hn
      refine (Try.slices_Clone_int_zero a c W).mono ?_
      rintro e w ⟨v, rfl, hr, _, hb⟩
      obtain ⟨A', c', rfl, h1, hz⟩ := z_of_row (l := []) rfl hr
      exact ⟨A', c', rfl, h1, hz, hb⟩
    · obtain ⟨b, o, e, _, hc⟩ := Jump.reads_cells hx (by omega)
      injection e with e
      subst e
      refine (Try.slices_Clone_int b o n c l W (by omega) (by omega) hc).mono ?_
      rintro e w ⟨v, rfl, hr, _, hb⟩
      rw [List.take_of_length_le (by omega)] at hr
      obtain ⟨A', c', rfl, h1, hz⟩ := z_of_row hn hr
      exact ⟨A', c', rfl, h1, hz, hb⟩
end Go.Proofs.Ytahhgeecikljdaa.Tb
