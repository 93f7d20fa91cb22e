/-
  slices.DeleteFunc of numbers, with the closure that OrsetDrops hands to it.
-/
import Derived.Test.YthebilmeehnkpaaGInts
import Derived.Test.YthebilmeehnkpaaShFuncs
import Derived.Test.YthebilmeehnkpaaShIdx
namespace Go.Proofs.Ythebilmeehnkpaa.Ors
set_option linter.unusedVariables false
set_option linter.unusedSimpArgs false
open Go.RowKit Mem Gt
open Go.Sort (grow alloc_eq_grow grow_grow putRow Holds)

theorem z_head {W : World} {B : Nat} {A : Option Addr} {n c : Nat} {l : List Int} (h : ZTab W B (.slice A n c) l) (h0 : 0 < l.length) : ∃ g, A = some ⟨g, 0, none⟩ ∧ n = l.length ∧ B ≤ g ∧ g < W.heap.size ∧ n ≤ c := by
  obtain ⟨A', c', e, hc, _⟩ := h.form
  injection e with e1 e2 e3
  rcases h.2 with ⟨e, hn⟩ | ⟨g, cap', cur, e, hb, hg, _⟩
  · simp at hn; subst hn; simp at h0
  · injection e with e4
    subst e4
    exact ⟨g, rfl, e2, hb, (Array.getElem?_eq_some_iff.1 hg).1, by omega⟩
theorem z_holds {W : World} {B g n c : Nat} {l : List Int} (h : ZTab W B (.slice (some ⟨g, 0, none⟩) n c) l) (hn : n = l.length) : Holds (Value.int .i64) W g 0 l.toArray := by
  intro j hj
  have hj' : j < l.length := by simpa using hj
  subst hn
  have h' : W.ownsRow B 3 1 (.slice (some ⟨g, 0, none⟩) l.length c) l.length (l.map (Value.int .i64)) := by
    have h3 := h; unfold ZTab Grows at h3; rw [List.length_map] at h3; exact h3
  refine ⟨?_, by rw [Nat.zero_add]; exact h'.frozenAt j⟩
  rw [Nat.zero_add, h'.cellAt j (by omega), List.getElem?_map, List.getElem?_eq_getElem hj', getElem!_pos l.toArray j hj]
  simp
theorem holds_reads {W : World} {g : Nat} {l : List Int} (h : Holds (Value.int .i64) W g 0 l.toArray) {k : Nat} {l' : List Int} (hl : l' = l.take k) : Reads W (some ⟨g, 0, none⟩) (l'.map (Value.int .i64)) := fun j v hv => by
  subst hl
  rw [List.getElem?_map, List.getElem?_take] at hv
  by_cases hj : j < k
  · rw [if_pos hj] at hv
    cases e : l[j]? with
    | none => rw [e] at hv; cases hv
    | some x =>
      rw [e] at hv
      injection hv with hv
      subst hv
      obtain ⟨h1, rfl⟩ := List.getElem?_eq_some_iff.1 e
      have := (h j (by simpa using h1)).1
      rw [getElem!_pos l.toArray j (by simpa using h1)] at this
      refine ⟨g, 0, rfl, World.block_lt_of_cell? _ _ this, ?_⟩
      rw [this]; simp
  · rw [if_neg hj] at hv; cases hv
theorem below_put {B : Nat} {W : World} {g off q : Nat} {d : Array Int} (hg : B ≤ g) : Below B W (putRow (Value.int .i64) (Sort.ahead W q) g off d) := by
  refine ⟨rfl, rfl, rfl, by simp [putRow, Sort.mapBlock], fun b hb => ?_⟩
  simp only [putRow, Sort.mapBlock, Array.getElem?_modify]
  rw [if_neg (by omega)]; rfl
theorem below_growD {B : Nat} {W V : World} (h : Below B W V) (hs : B ≤ V.heap.size) (os : Array Obj) : Below B W (grow V os) := by
  refine ⟨h.os, h.tape, h.output, ?_, fun b hb => ?_⟩
  · show _ ≤ (V.heap ++ os).size
    rw [Array.size_append]; have := h.size; omega
  · have h1 := h.block b hb
    show (V.heap ++ os)[b]? = _
    rw [Array.getElem?_append_left (by omega)]; exact h1
set_option maxRecDepth 100000 in
theorem clos_eq (bx : Nat) (x id : Int) (V : World) (h : V.cell? ⟨bx, 0, none⟩ = some (.int .i64 id)) :
    Calls Try.prog 27 #[.int .i64 x, .pointer (some ⟨bx, 0, none⟩)] V fun e w' => e = .returned (.bool (decide (x = id))) ∧ ∃ q, w' = V.drewN q := by
  by_cases e : x = id
  · have E := Lib.hid (show decide (x = id) = true from decide_eq_true e)
    have i1 : (x == id) = true := by simp [e]
    clear e
    go_enter Try.func27, Try.ntmps27
    go_wp2
    go_ret
    exact ⟨by rw [E.out]; rfl, 0, rfl⟩
  · have E := Lib.hid (show decide (x = id) = false from decide_eq_false e)
    have i1 : (x == id) = false := by simp [e]
    clear e
    go_enter Try.func27, Try.ntmps27
    go_wp2
    go_ret
    exact ⟨by rw [E.out]; rfl, 0, rfl⟩
set_option maxRecDepth 100000 in
theorem delete_z (B : Nat) (A : Option Addr) (l : List Int) (n c bx : Nat) (id : Int) (W : World) (hn : l.length = n) (hbig : n ≤ 400) (hz : ZTab W B (.slice A n c) l) (hbx : bx < B) (hid : W.cell? ⟨bx, 0, none⟩ = some (.int .i64 id)) :
    Calls Try.prog 26 #[.slice A n c, .func (.func 27) #[] #[.pointer (some ⟨bx, 0, none⟩)]] W fun e W' =>
      e = .returned (.slice A (l.filter (fun x => x != id)).length c) ∧ Reads W' A ((l.filter (fun x => x != id)).map (Value.int .i64)) ∧ Below B W W' := by
  subst hn
  rcases Nat.eq_zero_or_pos l.length with h0 | h0
  · obtain rfl := List.eq_nil_of_length_eq_zero h0
    have IE := Lib.hid (fun V => AnyE.slices_IndexFunc_empty Try.indexFInt A c (.func (.func 27) #[] #[.pointer (some ⟨bx, 0, none⟩)]) V)
    clear hz hid
    go_enter Try.func26, Try.ntmps26
    go_wp2_with (go_at_call 50; refine (IE.out _).mono ?_; rintro e w' ⟨rfl, rfl⟩)
    go_ret
    exact ⟨rfl, Reads.nil, Below.refl _ _⟩
  obtain ⟨g, rfl, _, hg, _, hc⟩ := z_head hz h0
  have hH := z_holds hz rfl
  have hs : l.toArray.size = l.length := by simp
  have H := AnyE.slices_DeleteFunc Try.deleteInt (Value.int .i64) (fun _ => rfl) (fun x : Int => decide (x = id)) 27 #[.pointer (some ⟨bx, 0, none⟩)] (enters_of Try.func27 (by kernel_rfl) rfl) 0 Try.zeroValue3
    g 0 c l.toArray W (fun V x hb => clos_eq bx x id V ((hb.cell (p := ⟨bx, 0, none⟩) (World.block_lt_of_cell? _ _ hid)).trans hid))
    (fun m os dk x _ => clos_eq bx x id _ (by
      have h1 : Below (bx + 1) W (putRow (Value.int .i64) (Sort.ahead W m) g 0 dk) := below_put (by omega)
      have h2 := (h1.cell (p := ⟨bx, 0, none⟩) (by simp)).trans hid
      exact ((below_growD (Below.refl _ _) (Nat.le_refl _) os).cell (p := ⟨bx, 0, none⟩) (World.block_lt_of_cell? _ _ h2)).trans h2))
    hH (by rw [hs]; omega) (by rw [hs]; exact hc)
  rw [hs] at H
  refine H.mono ?_
  rintro e w ⟨rfl, q, rfl⟩
  have ef : (l.toArray.toList.filter fun x => !decide (x = id)) = l.filter (fun x => x != id) := by
    refine List.filter_congr (fun x _ => ?_)
    by_cases e : x = id <;> simp [e]
  rw [ef]
  refine ⟨rfl, ?_, below_put hg⟩
  have hlen : (l.filter (fun x => x != id)).length ≤ l.length := List.length_filter_le _ _
  refine holds_reads (Sort.holds_putRow (Value.int .i64) (Sort.ahead W q) g 0 l.toArray _ (Sort.holds_ahead _ _ _ _ _ _ hH) (by simp; omega)) (k := (l.filter (fun x => x != id)).length) ?_
  rw [List.take_left' rfl]
end Go.Proofs.Ythebilmeehnkpaa.Ors
