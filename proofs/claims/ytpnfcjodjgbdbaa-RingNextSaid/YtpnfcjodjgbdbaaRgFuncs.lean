/-
  slices.Clone, Reverse and DeleteFunc of numbers.
-/
import Derived.Test.YtpnfcjodjgbdbaaRgAlive
import Derived.Test.YtpnfcjodjgbdbaaShFuncs
namespace Go.Proofs.Ytpnfcjodjgbdbaa.Ring
set_option linter.unusedVariables false
set_option linter.unusedSimpArgs false
open Go.RowKit Mem
open Go.Sort (grow alloc_eq_grow grow_grow putRow Holds)

set_option maxRecDepth 100000 in
theorem z_none {W : World} {l : List Int} (h : Reads W none (l.map (Value.int .i64))) : l = [] := by
  cases l with
  | nil => rfl
  | cons x l => obtain ⟨b, o, h1, _⟩ := h 0 (.int .i64 x) rfl; cases h1
theorem z_of_row {W : World} {B : Nat} {v : Value} {l : List Int} {n : Nat} (hn : l.length = n) (h : W.ownsRow B 3 1 v n (l.map (Value.int .i64))) : ∃ A c, v = .slice A n c ∧ ZTab W B (.slice A n c) l := by
  have hz : ZTab W B v l := by unfold ZTab Grows; rw [List.length_map, hn]; exact h
  obtain ⟨A, c, e, _, _⟩ := hz.form
  rw [hn] at e
  subst e
  exact ⟨A, c, rfl, hz⟩
theorem clone_z (A : Option Addr) (l : List Int) (n c : Nat) (W : World) (hn : l.length = n) (hbig : n ≤ 17592186044416) (hx : Reads W A (l.map (Value.int .i64))) :
    Calls Try.prog 21 #[.slice A n c] W fun e W' => ∃ A' c', e = .returned (.slice A' n c') ∧ ZTab W' W.heap.size (.slice A' n c') l ∧ Below W.heap.size W W' := by
  cases A with
  | none =>
    obtain rfl := z_none hx
    obtain rfl : n = 0 := hn.symm
    refine (Try.slices_Clone_int_nil 0 c W).mono ?_
    rintro e w ⟨rfl, rfl⟩
    exact ⟨none, 0, rfl, ZTab.nil _ _, Below.refl _ _⟩
  | some a =>
    rcases Nat.eq_zero_or_pos n with h0 | h0
    · subst h0
      obtain rfl := List.eq_nil_of_length_eq_zero hn
      refine (Try.slices_Clone_int_zero a c W).mono ?_
      rintro e w ⟨v, rfl, hr, _, hb⟩
      obtain ⟨A', c', rfl, hz⟩ := z_of_row (l := []) rfl hr
      exact ⟨A', c', rfl, hz, hb⟩
    · obtain ⟨b, o, e, _, hc⟩ := reads_cells hx (by omega)
      injection e with e
      subst e
      refine (Try.slices_Clone_int b o n c l W (by omega) (by omega) hc).mono ?_
      rintro e w ⟨v, rfl, hr, _, hb⟩
      rw [List.take_of_length_le (by omega)] at hr
      obtain ⟨A', c', rfl, hz⟩ := z_of_row hn hr
      exact ⟨A', c', rfl, hz, hb⟩
theorem z_head {W : World} {B : Nat} {A : Option Addr} {n c : Nat} {l : List Int} (h : ZTab W B (.slice A n c) l) (h0 : 0 < l.length) : ∃ g, A = some ⟨g, 0, none⟩ ∧ n = l.length ∧ B ≤ g ∧ g < W.heap.size ∧ n ≤ c := by
  obtain ⟨A', c', e, hc, _⟩ := h.form
  injection e with e1 e2 e3
  rcases h.2 with ⟨e, hn⟩ | ⟨g, cap', cur, e, hb, hg, _⟩
  · simp at hn; subst hn; simp at h0
  · injection e with e4
    subst e4
    exact ⟨g, rfl, e2, hb, (Array.getElem?_eq_some_iff.1 hg).1, by omega⟩
theorem z_holds {W : World} {B g n c : Nat} {l : List Int} (h : ZTab W B (.slice (some ⟨g, 0, none⟩) n c) l) (hn : n = l.length) : Holds (Value.int .i64) W g 0 l.toArray := by
  intro j hj
  have hj' : j < l.length := by simpa using hj
  subst hn
  have h' : W.ownsRow B 3 1 (.slice (some ⟨g, 0, none⟩) l.length c) l.length (l.map (Value.int .i64)) := by
    have h3 := h; unfold ZTab Grows at h3; rw [List.length_map] at h3; exact h3
  refine ⟨?_, by rw [Nat.zero_add]; exact h'.frozenAt j⟩
  rw [Nat.zero_add, h'.cellAt j (by omega), List.getElem?_map, List.getElem?_eq_getElem hj', getElem!_pos l.toArray j hj]
  simp
theorem holds_reads {W : World} {g : Nat} {l : List Int} (h : Holds (Value.int .i64) W g 0 l.toArray) {k : Nat} {l' : List Int} (hl : l' = l.take k) : Reads W (some ⟨g, 0, none⟩) (l'.map (Value.int .i64)) := fun j v hv => by
  subst hl
  rw [List.getElem?_map, List.getElem?_take] at hv
  by_cases hj : j < k
  · rw [if_pos hj] at hv
    cases e : l[j]? with
    | none => rw [e] at hv; cases hv
    | some x =>
      rw [e] at hv
      injection hv with hv
      subst hv
      obtain ⟨h1, rfl⟩ := List.getElem?_eq_some_iff.1 e
      have := (h j (by simpa using h1)).1
      rw [getElem!_pos l.toArray j (by simpa using h1)] at this
      refine ⟨g, 0, rfl, World.block_lt_of_cell? _ _ this, ?_⟩
      rw [this]; simp
  · rw [if_neg hj] at hv; cases hv
theorem below_put {B : Nat} {W : World} {g off q : Nat} {d : Array Int} (hg : B ≤ g) : Below B W (putRow (Value.int .i64) (Sort.ahead W q) g off d) := by
  refine ⟨rfl, rfl, rfl, by simp [putRow, Sort.mapBlock], fun b hb => ?_⟩
  simp only [putRow, Sort.mapBlock, Array.getElem?_modify]
  rw [if_neg (by omega)]; rfl
theorem reverse_z (B : Nat) (A : Option Addr) (l : List Int) (n c : Nat) (W : World) (hn : l.length = n) (hbig : n ≤ 9223372036854775807) (hz : ZTab W B (.slice A n c) l) :
    Calls Try.prog 23 #[.slice A n c] W fun e W' => e = .returned (.tuple #[]) ∧ Reads W' A (l.reverse.map (Value.int .i64)) ∧ Below B W W' := by
  rcases Nat.eq_zero_or_pos n with h0 | h0
  · subst h0
    obtain rfl := List.eq_nil_of_length_eq_zero hn
    refine (Try.slices_Reverse_int_empty A c W).mono ?_
    rintro e w ⟨rfl, rfl⟩
    exact ⟨rfl, Reads.nil, Below.refl _ _⟩
  · obtain ⟨g, rfl, e, hg, _, _⟩ := z_head hz (by omega)
    subst hn
    have hH := z_holds hz rfl
    refine (Try.slices_Reverse_int g 0 c l W hH hbig).mono ?_
    rintro e w ⟨rfl, q, rfl⟩
    refine ⟨rfl, ?_, below_put hg⟩
    exact holds_reads (Sort.holds_putRow (Value.int .i64) (Sort.ahead W q) g 0 l.toArray l.reverse.toArray (Sort.holds_ahead _ _ _ _ _ _ hH) (by simp)) (k := l.length) (by rw [List.take_of_length_le (by simp)])

theorem clos_eq (bx : Nat) (x id : Int) (V : World) (h : V.cell? ⟨bx, 0, none⟩ = some (.int .i64 id)) :
    Calls Try.prog 22 #[.int .i64 x, .pointer (some ⟨bx, 0, none⟩)] V fun e w' => e = .returned (.bool (decide (x = id))) ∧ ∃ q, w' = V.drewN q := by
  by_cases e : x = id
  · have E := Lib.hid (show decide (x = id) = true from decide_eq_true e)
    have i1 : (x == id) = true := by simp [e]
    clear e
    go_enter Try.func22, Try.ntmps22
    go_wp2
    go_ret
    exact ⟨by rw [E.out]; rfl, 0, rfl⟩
  · have E := Lib.hid (show decide (x = id) = false from decide_eq_false e)
    have i1 : (x == id) = false := by simp [e]
    clear e
    go_enter Try.func22, Try.ntmps22
    go_wp2
    go_ret
    exact ⟨by rw [E.out]; rfl, 0, rfl⟩
theorem delete_z (B : Nat) (A : Option Addr) (l : List Int) (n c bx : Nat) (id : Int) (W : World) (hn : l.length = n) (h0 : 0 < n) (hbig : n ≤ 400) (hz : ZTab W B (.slice A n c) l) (hbx : bx < B) (hid : W.cell? ⟨bx, 0, none⟩ = some (.int .i64 id)) :
    Calls Try.prog 20 #[.slice A n c, .func (.func 22) #[] #[.pointer (some ⟨bx, 0, none⟩)]] W fun e W' =>
      e = .returned (.slice A (l.filter (fun x => x != id)).length c) ∧ Reads W' A ((l.filter (fun x => x != id)).map (Value.int .i64)) ∧ Below B W W' := by
  subst hn
  obtain ⟨g, rfl, _, hg, _, hc⟩ := z_head hz h0
  have hH := z_holds hz rfl
  have hs : l.toArray.size = l.length := by simp
  have H := AnyE.slices_DeleteFunc Try.deleteInt (Value.int .i64) (fun _ => rfl) (fun x : Int => decide (x = id)) 22 #[.pointer (some ⟨bx, 0, none⟩)] (enters_of Try.func22 (by kernel_rfl) rfl) 0 Try.zeroValue3
    g 0 c l.toArray W (fun V x hb => clos_eq bx x id V ((hb.cell (p := ⟨bx, 0, none⟩) (World.block_lt_of_cell? _ _ hid)).trans hid))
    (fun m os dk x _ => clos_eq bx x id _ (by
      have h1 : Below (bx + 1) W (putRow (Value.int .i64) (Sort.ahead W m) g 0 dk) := below_put (by omega)
      have h2 := (h1.cell (p := ⟨bx, 0, none⟩) (by simp)).trans hid
      exact ((below_grow (Below.refl _ _) (Nat.le_refl _) 0 os).cell (p := ⟨bx, 0, none⟩) (World.block_lt_of_cell? _ _ h2)).trans h2))
    hH (by rw [hs]; omega) (by rw [hs]; exact hc)
  rw [hs] at H
  refine H.mono ?_
  rintro e w ⟨rfl, q, rfl⟩
  have ef : (l.toArray.toList.filter fun x => !decide (x = id)) = l.filter (fun x => x != id) := by
    refine List.filter_congr (fun x _ => ?_)
    by_cases e : x = id <;> simp [e]
  rw [ef]
  refine ⟨rfl, ?_, below_put hg⟩
  have hlen : (l.filter (fun x => x != id)).length ≤ l.length := List.length_filter_le _ _
  refine holds_reads (Sort.holds_putRow (Value.int .i64) (Sort.ahead W q) g 0 l.toArray _ (Sort.holds_ahead _ _ _ _ _ _ hH) (by simp; omega)) (k := (l.filter (fun x => x != id)).length) ?_
  rw [List.take_left' rfl]
end Go.Proofs.Ytpnfcjodjgbdbaa.Ring
