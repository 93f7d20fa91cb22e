/-
  Hosts that came in, cell by cell; slices.IndexFunc at hosts with a closure that asks for an id.
-/
import Derived.Test.YtcbecpgllebepaaCrMem
import Derived.Test.YtcbecpgllebepaaShCr
namespace Go.Proofs.Ytcbecpgllebepaa.Crush
set_option linter.unusedVariables false
set_option linter.unusedSimpArgs false
open Go.RowKit Mem Straw

/-- The two cells of each host, as values. -/
def encV (x : Int × Value) : List Value := [.int .i64 x.1, x.2]
theorem host_cells {W : World} {A : Option Addr} {hs : List Ht} (h : HRds W A hs) : ∃ zs : List (Int × Value), zs.length = hs.length ∧ (∀ (k : Nat) (x : Ht), hs[k]? = some x → ∃ u, zs[k]? = some (x.1, u)) ∧
    ∀ (k : Nat) (z : Int × Value), zs[k]? = some z → ∃ b o, A = some ⟨b, o, none⟩ ∧ b < W.heap.size ∧ W.cell? ⟨b, o + k * 2, none⟩ = some (.int .i64 z.1) ∧ W.cell? ⟨b, o + k * 2 + 1, none⟩ = some z.2 := by
  obtain ⟨R, hR⟩ := Go.Deep.choose_lt (α := Int × Value) (n := hs.length) (p := fun i r => ∃ x, hs[i]? = some x ∧ r.1 = x.1 ∧ ∃ b o, A = some ⟨b, o, none⟩ ∧ b < W.heap.size ∧ W.cell? ⟨b, o + i * 2, none⟩ = some (.int .i64 r.1) ∧ W.cell? ⟨b, o + i * 2 + 1, none⟩ = some r.2) (fun i hi => by
    obtain ⟨b, o, u, h1, h2, h3, h4, _⟩ := h i hs[i] (List.getElem?_eq_getElem hi)
    exact ⟨(hs[i].1, u), _, List.getElem?_eq_getElem hi, rfl, b, o, h1, h2, h3, h4⟩)
  refine ⟨(List.range hs.length).map R, by simp, fun k x hk => ?_, fun k z hk => ?_⟩
  · have hkl := (List.getElem?_eq_some_iff.1 hk).1
    obtain ⟨x', e1, e2, _⟩ := hR k hkl
    rw [hk] at e1
    injection e1 with e1
    subst e1
    exact ⟨(R k).2, by rw [List.getElem?_map, List.getElem?_range hkl, Option.map_some, ← e2]⟩
  · have hkl : k < hs.length := by have := (List.getElem?_eq_some_iff.1 hk).1; simpa using this
    rw [List.getElem?_map, List.getElem?_range hkl] at hk
    simp at hk
    subst hk
    obtain ⟨x', _, _, h5⟩ := hR k hkl
    exact h5
theorem get_bang {α : Type} [Inhabited α] {ts : List α} {i : Nat} {t : α} (h : ts[i]? = some t) : ts[i]! = t := by
  obtain ⟨h1, rfl⟩ := List.getElem?_eq_some_iff.1 h
  exact getElem!_pos ts i h1
theorem boxHd (w : World) (a b : Value) : (w.alloc (.cells #[a, b] 43)).cell? ⟨w.heap.size, 0, none⟩ = some a := (boxH w a b).1
theorem box_old {V : World} {p : Addr} {v : Value} (o : Obj) (h : V.cell? p = some v) : (V.alloc o).cell? p = some v :=
  (((Below.refl V.heap.size V).alloc (Nat.le_refl _) o).cell (World.block_lt_of_cell? _ _ h)).trans h
theorem boxS (w : World) (a b : Value) : (w.alloc (.cells #[a, b] 31)).cell? ⟨w.heap.size, 0, none⟩ = some a ∧ (w.alloc (.cells #[a, b] 31)).cell? ⟨w.heap.size, 1, none⟩ = some b :=
  ⟨(Known.made w _ #[a, b]).cell 0, (Known.made w _ #[a, b]).cell 1⟩
end Go.Proofs.Ytcbecpgllebepaa.Crush
