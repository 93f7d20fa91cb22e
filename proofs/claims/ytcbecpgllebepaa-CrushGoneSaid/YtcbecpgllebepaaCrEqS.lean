/-
  slices.Contains and slices.Equal of spots.
-/
import Derived.Test.YtcbecpgllebepaaCrTab
import Derived.Test.YtcbecpgllebepaaShCr3
import Derived.Laws.StructEq
namespace Go.Proofs.Ytcbecpgllebepaa.Crush
set_option linter.unusedVariables false
set_option linter.unusedSimpArgs false
open Go.RowKit Mem Straw

theorem spot_guard : GuardAt Try.prog 31 (fun x : It => .agg (enc2 x).toArray) := GuardAt.agg (fun x => (enc2 x).toArray) (by kernel_rfl)
theorem spot_eql : EqlAt Try.prog 31 (fun x : It => .agg (enc2 x).toArray) (fun x y => decide (x = y)) := ⟨fun x y w => by
  obtain ⟨a, b⟩ := x
  obtain ⟨c, d⟩ := y
  by_cases h1 : a = c <;> by_cases h2 : b = d <;> simp only [enc2] <;> go_simp <;> simp [h1, h2], spot_guard⟩
theorem spot_neq : NeqAt Try.prog 31 (fun x : It => .agg (enc2 x).toArray) (fun x y => decide (x = y)) := ⟨fun x y w => by
  obtain ⟨a, b⟩ := x
  obtain ⟨c, d⟩ := y
  by_cases h1 : a = c <;> by_cases h2 : b = d <;> simp only [enc2] <;> go_simp <;> simp [h1, h2], spot_guard⟩
theorem enc_cells {V : World} {D : Option Addr} {l : List It} (hx : WRds V D l) {b o : Nat} (hD : D = some ⟨b, o, none⟩) : ∀ j, j < l.length → ∀ (i : Nat) v, (enc2 l[j]!)[i]? = some v → V.cell? ⟨b, o + j * 2 + i, none⟩ = some v := fun j hj i v hv => by
  have e := List.getElem?_eq_getElem hj
  obtain ⟨b', o', e1, _, h0, h1⟩ := hx j _ e
  rw [hD] at e1
  injection e1 with e1
  injection e1 with e1 e2
  subst e1 e2
  rw [getElem!_pos l j hj] at hv
  rcases i with _ | _ | i
  · simp [enc2] at hv; subst hv; exact h0
  · simp [enc2] at hv; subst hv; exact h1
  · simp [enc2] at hv
theorem wrds_head {V : World} {D : Option Addr} {l : List It} (hx : WRds V D l) (h : l ≠ []) : ∃ b o, D = some ⟨b, o, none⟩ := by
  cases l with
  | nil => exact absurd rfl h
  | cons x l => obtain ⟨b, o, h1, _⟩ := hx 0 x rfl; exact ⟨b, o, h1⟩
set_option maxHeartbeats 2000000 in
theorem index_none (D : Option Addr) (c : Nat) (a b : Value) (V : World) : Calls Try.prog 35 #[.slice D 0 c, .agg #[a, b]] V (Gave (.int .i64 (-1)) V) := by
  have HB := Lib.hid ((Below.refl V.heap.size V).alloc (Nat.le_refl _) (.cells #[a, b] 31))
  go_enter Try.func35, Try.ntmps35
  go_wp2
  go_loopw [8] (fun i wr => i = .int .i64 0 ∧ Below V.heap.size V wr) (fun _ _ => 0)
  case atStart => exact ⟨rfl, HB.out⟩
  case round =>
    obtain ⟨rfl, hb⟩ := hrel
    have HR := Lib.hid hb
    clear hb
    go_wp2
    go_ret
    exact ⟨rfl, HR.out⟩
set_option maxHeartbeats 2000000 in
theorem containsS_c (D : Option Addr) (l : List It) (n c : Nat) (s : It) (V : World) (hx : WRds V D l) (hn : l.length = n) (hb : n ≤ 8796093022208) :
    Calls Try.prog 15 #[.slice D n c, .agg #[.int .i64 s.1, .int .i64 s.2]] V (Gave (.bool (decide (s ∈ l))) V) := by
  by_cases h : l = []
  · subst h
    obtain rfl : n = 0 := hn.symm
    have IN := Lib.hid (index_none D c (.int .i64 s.1) (.int .i64 s.2))
    clear hx hn hb
    go_enter Try.func15, Try.ntmps15
    go_wp2_with fail
    refine (IN.out _).mono ?_
    rintro e w ⟨rfl, hb⟩
    have HB := Lib.hid (((Below.refl V.heap.size V).alloc (Nat.le_refl _) (.cells #[.int .i64 s.1, .int .i64 s.2] 31)).trans (hb.mono (by simp)))
    clear hb
    go_wp2
    go_ret
    exact ⟨by simp, HB.out⟩
  · obtain ⟨b, o, rfl⟩ := wrds_head hx h
    have H := AnyQ.slices_Contains Try.containsSpot 2 Try.isAgg31 Try.sizeOf31 enc2 (fun _ => rfl) (fun x y => decide (x = y)) spot_eql b o n c l s V (by omega) (by omega) (enc_cells hx rfl)
    refine H.mono ?_
    rintro e w ⟨rfl, hb⟩
    refine ⟨?_, hb⟩
    rw [List.take_of_length_le (by omega)]
    by_cases hm : s ∈ l
    · rw [decide_eq_true hm, List.any_eq_true.2 ⟨s, hm, by simp⟩]
    · rw [decide_eq_false hm, List.any_eq_false.2 (fun y hy e => hm (by rw [of_decide_eq_true e]; exact hy))]
set_option maxHeartbeats 2000000 in
theorem equal_none (A B : Option Addr) (ca cb : Nat) (V : World) : Calls Try.prog 13 #[.slice A 0 ca, .slice B 0 cb] V (Gave (.bool true) V) := by
  go_enter Try.func13, Try.ntmps13
  go_wp2
  go_loopw [13] (fun i wr => i = .int .i64 0 ∧ Below V.heap.size V wr) (fun _ _ => 0)
  case atStart => exact ⟨rfl, Below.refl _ _⟩
  case round =>
    obtain ⟨rfl, hb⟩ := hrel
    have HR := Lib.hid hb
    clear hb
    go_wp2
    go_ret
    exact ⟨rfl, HR.out⟩
theorem allEq_self (l : List It) : Lib.allEq (fun x y => decide (x = y)) l l = true := by
  induction l with
  | nil => rfl
  | cons x l ih => simp [Lib.allEq, ih]
theorem equalS_c (A B : Option Addr) (l : List It) (n ca cb : Nat) (V : World) (hn : l.length = n) (hb : n ≤ 8796093022208) (hx : WRds V A l) (hy : WRds V B l) :
    Calls Try.prog 13 #[.slice A n ca, .slice B n cb] V (Gave (.bool true) V) := by
  by_cases h : l = []
  · subst h
    obtain rfl : n = 0 := hn.symm
    exact equal_none A B ca cb V
  · obtain ⟨b, o, rfl⟩ := wrds_head hx h
    obtain ⟨b', o', rfl⟩ := wrds_head hy h
    have H := AnyQ.slices_Equal Try.equalSpot 2 Try.isAgg31 Try.sizeOf31 enc2 (fun _ => rfl) (fun x y => decide (x = y)) spot_neq b o n ca b' o' n cb l l V (by omega) (by omega) (by omega) (by omega) (enc_cells hx rfl) (enc_cells hy rfl)
    refine H.mono ?_
    rintro e w ⟨rfl, q, rfl⟩
    exact ⟨by rw [allEq_self], (Drawn.below ⟨q, rfl⟩ _)⟩
end Go.Proofs.Ytcbecpgllebepaa.Crush
