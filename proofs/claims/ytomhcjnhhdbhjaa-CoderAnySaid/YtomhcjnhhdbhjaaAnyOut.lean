/-
  Pieces in a block of the call's own, and append(all[:k:k], all[k+1:]...).
-/
import Derived.Test.YtomhcjnhhdbhjaaCoderAlive
import Derived.Test.YtomhcjnhhdbhjaaAnyPure
import Derived.Test.YtomhcjnhhdbhjaaRowsApp
import Derived.Test.YtomhcjnhhdbhjaaClone
import Derived.Deep.Upon
namespace Go.Proofs.Ytomhcjnhhdbhjaa.coderAny
open Go.ChangeShapes Go.WideShapes Go.ChangeAt Go.RowKit
open Gf Mem Poly Cdr
set_option linter.unusedVariables false

/-- A block of the call's own (B or later), of at least cap pieces' cells, that begins with the pieces ps; their rows lie elsewhere. -/
structure PList (W : World) (B g cap : Nat) (ps : List Pc) : Prop where
  own : B ≤ g
  lt : g < W.heap.size
  le : ps.length ≤ cap
  max : cap ≤ maxLen
  there : ∀ j, j < cap * 2 → (W.cell? ⟨g, j, none⟩).isSome = true ∧ W.frozen? ⟨g, j, none⟩ = false
  at_ : ∀ (k : Nat) (p : Pc), ps[k]? = some p → W.cell? ⟨g, k * 2, none⟩ = some (.int .i64 p.1) ∧ ∃ u, W.cell? ⟨g, k * 2 + 1, none⟩ = some u ∧ RowOff W (some g) u p.2
theorem PList.pcs {W : World} {B g cap : Nat} {ps : List Pc} (h : PList W B g cap ps) : Pcs W (some ⟨g, 0, none⟩) ps := fun k p hp => by
  obtain ⟨h1, u, h2, h3⟩ := h.at_ k p hp
  exact ⟨g, 0, u, rfl, h.lt, by rw [Nat.zero_add]; exact h1, by rw [Nat.zero_add]; exact h2, h3.isRow⟩
theorem plist_of {W : World} {B cap : Nat} {A : Option Addr} {n : Nat} {ps : List Pc} (h : PTable W B (.slice A n cap) ps) (h0 : 0 < ps.length) : ∃ g, A = some ⟨g, 0, none⟩ ∧ PList W B g cap ps := by
  obtain ⟨xs, ⟨hx, h2⟩, h3⟩ := h
  rcases h2 with ⟨_, hn⟩ | ⟨g, cap', cur, e, hb, hh, hn, hc, hsz, ht⟩
  · omega
  · injection e with e1 e2 e3
    subst e1 e2 e3
    have kn : Known W g 35 cur := hh
    have hat : ∀ (j : Nat) (w : Value), xs[j]? = some w → W.cell? ⟨g, j, none⟩ = some w := fun j w hj => by
      refine (kn.cell j).trans ?_
      rw [← ht, List.getElem?_take] at hj
      split at hj
      · simpa using hj
      · cases hj
    refine ⟨g, rfl, hb, kn.lt, hn, hc, fun j hj => ⟨?_, kn.free j⟩, fun k p hp => ?_⟩
    · rw [kn.cell j, Array.getElem?_eq_getElem (by omega)]; rfl
    · obtain ⟨a1, u, a2, a3⟩ := h3 k p hp
      exact ⟨hat _ _ a1, u, hat _ _ a2, a3⟩
theorem PList.below {W V : World} {B g cap : Nat} {ps : List Pc} (h : PList W B g cap ps) (hb : Below W.heap.size W V) : PList V B g cap ps :=
  ⟨h.own, Nat.lt_of_lt_of_le h.lt hb.size, h.le, h.max, fun j hj => by
    have := h.there j hj
    exact ⟨by rw [hb.cell (p := ⟨g, j, none⟩) h.lt]; exact this.1, (World.frozen?_of_block (hb.block g h.lt)).trans this.2⟩, fun k p hp => by
    obtain ⟨h1, u, h2, h3⟩ := h.at_ k p hp
    exact ⟨(hb.cell (p := ⟨g, _, none⟩) h.lt).trans h1, u, (hb.cell (p := ⟨g, _, none⟩) h.lt).trans h2, h3.later hb⟩⟩

def cellsAt (w : World) (g a n : Nat) : List Value := (List.range n).map fun j => (w.cell? ⟨g, a + j, none⟩).getD (.bool false)
theorem cellsAt_len (w : World) (g a n : Nat) : (cellsAt w g a n).length = n := by simp [cellsAt]
theorem cellsAt_at {w : World} {g a n j : Nat} (h : j < n) : (cellsAt w g a n)[j]? = some ((w.cell? ⟨g, a + j, none⟩).getD (.bool false)) := by
  unfold cellsAt; rw [List.getElem?_map, List.getElem?_range h]; rfl
theorem PList.cell {w : World} {B g cap : Nat} {ps : List Pc} (h : PList w B g cap ps) {j : Nat} (hj : j < ps.length * 2) : ∃ u, w.cell? ⟨g, j, none⟩ = some u ∧ u.oneCell' = true := by
  obtain ⟨k, hk | hk⟩ : ∃ k, j = k * 2 ∨ j = k * 2 + 1 := ⟨j / 2, by omega⟩
  · obtain ⟨h1, _⟩ := h.at_ k ps[k] (List.getElem?_eq_getElem (by omega))
    exact ⟨_, by rw [hk]; exact h1, rfl⟩
  · obtain ⟨_, u, h2, C, c, rfl, _⟩ := h.at_ k ps[k] (List.getElem?_eq_getElem (by omega))
    exact ⟨_, by rw [hk]; exact h2, rfl⟩
theorem moved {w V : World} {B g cap j j' : Nat} {ps : List Pc} {p : Pc} {cs : List Value} (hL : PList w B g cap ps) (hbl : Below w.heap.size w V) (hat : ∀ (j : Nat) (u : Value), cs[j]? = some u → V.cell? ⟨w.heap.size, j, none⟩ = some u) (hj' : ps[j']? = some p)
    (hd : ∀ d, d < 2 → cs[j * 2 + d]? = some ((w.cell? ⟨g, j' * 2 + d, none⟩).getD (.bool false))) : V.cell? ⟨w.heap.size, j * 2, none⟩ = some (.int .i64 p.1) ∧ ∃ u, V.cell? ⟨w.heap.size, j * 2 + 1, none⟩ = some u ∧ RowOff V (some w.heap.size) u p.2 := by
  obtain ⟨a1, u, a2, a3⟩ := hL.at_ j' p hj'
  have d0 := hd 0 (by omega)
  have d1 := hd 1 (by omega)
  rw [Nat.add_zero, Nat.add_zero, a1] at d0
  rw [a2] at d1
  obtain ⟨C, cc, r1, r2, r3, r4, r5⟩ := a3
  exact ⟨hat _ _ d0, u, hat _ _ d1, C, cc, r1, r2, r3, r4.below hbl, fun hne ad ha => ⟨fun e => by injection e with e; have := (r5 hne ad ha).2; omega, Nat.lt_of_lt_of_le (r5 hne ad ha).2 hbl.size⟩⟩
theorem append_out {ops : Array Oper} {rest : List Oper} {o : Oper} {a : Act} {Q : Exit → Act → World → Prop} (hgd : o.guard = none) (s x : Operand)
    (ho : o.op = .call { callee := .builtin .append, args := #[s, x], argTypes := #[29, 29] }) {w W0 : World} {B g cap k len c : Nat} {ps : List Pc} (hlen : ps.length = len) (hs : a.eval s = .slice (some ⟨g, 0, none⟩) k k)
    (hx : a.eval x = .slice (if cap = k + 1 then some ⟨g, 0, none⟩ else some ⟨g, (k + 1) * 2, none⟩) (len - (k + 1)) c) (hL : PList w B g cap ps) (hk : k < len) (hl : len ≤ 200) (hb : Below B W0 w) (hB : B ≤ w.heap.size)
    (h : ∀ g' cap' w', Hid (PList w' B g' cap' (without ps k)) → Hid (Below B W0 w') → wpList Try.prog ops Q rest (a.put o.dst (.slice (some ⟨g', 0, none⟩) (len - 1) cap')) w') :
    wpList Try.prog ops Q (o :: rest) a w := by
  subst hlen
  obtain ⟨i, hi, z, hz0, hz1, hz2, hz3⟩ : ∃ i, Try.prog.info? 35 = some i ∧ ∃ z, i.zero = some z ∧ i.size = 2 ∧ i.bytes = 32 ∧ z.cells.size = 2 := by
    have h0 := infoPc
    cases hi : Try.prog.info? 35 with
    | none => rw [hi] at h0; cases h0
    | some i =>
      rw [hi] at h0
      simp only [Option.map_some, Option.some.injEq, Prod.mk.injEq] at h0
      cases hz : i.zero with
      | none => rw [hz] at h0; cases h0.1
      | some z =>
        rw [hz] at h0
        simp only [Option.map_some, Option.some.injEq] at h0
        exact ⟨i, rfl, z, hz, h0.2.1, h0.2.2, h0.1⟩
  have hle := hL.le
  by_cases hlast : ps.length = k + 1
  · have hsrc : Src Try.prog i.size 29 (.slice (if cap = k + 1 then some ⟨g, 0, none⟩ else some ⟨g, (k + 1) * 2, none⟩) 0 c) 0 [] w := by
      split
      · exact Src.ofSlice w Try.underlying29 _ 0 c [] (by simp) (fun j u hj => by simp at hj) (fun u hu => by cases hu)
      · exact Src.ofSlice w Try.underlying29 _ 0 c [] (by simp) (fun j u hj => by simp at hj) (fun u hu => by cases hu)
    rw [hlast, Nat.sub_self] at hx
    have hrun := run_append_nothing w 29 29 o.type _ i Try.underlying29 hi (some ⟨g, 0, none⟩) k k (Nat.le_refl _) _ hsrc
    refine wpList_plain hgd fun K hK => ?_
    unfold Oper.wp execOp
    simp only [ho, resolve, invoke, builtin, Sem.run_bind, Sem.run_pure, Result.andThen_ok, List.map_toArray, List.map_cons, List.map_nil, hs, hx, hrun]
    have hw : without ps k = ps.take k := by unfold without; rw [List.drop_of_length_le (by omega), List.append_nil]
    have hfin := h g k w (Lib.hid ⟨hL.own, hL.lt, by rw [hw, Poly.take_len (by omega)]; exact Nat.le_refl _, by have := hL.max; omega, fun j hj => hL.there j (by omega), fun j p hp => by
      rw [hw, List.getElem?_take] at hp
      split at hp
      · exact hL.at_ j p hp
      · cases hp⟩) (Lib.hid hb)
    rw [show ps.length - 1 = k by omega] at hfin
    exact hK _ _ hfin
  · have hcap : ¬ cap = k + 1 := by omega
    rw [if_neg hcap] at hx
    have hn : ps.length - (k + 1) = (without ps k).length - k := by rw [without_len hk]; omega
    have hold : (Builtin.firstCells i.size k (.slice (some ⟨g, 0, none⟩) k k)).run Try.prog w.drew = .ok (cellsAt w g 0 (k * 2)).toArray w.drew := by
      rw [hz1]
      refine run_firstCells_some w.drew 2 k ⟨g, 0, none⟩ k k (cellsAt w g 0 (k * 2)) (cellsAt_len _ _ _ _) fun j v hj => ?_
      have hjl := (List.getElem?_eq_some_iff.1 hj).1
      rw [cellsAt_len] at hjl
      rw [cellsAt_at hjl] at hj
      obtain ⟨u, hu, _⟩ := hL.cell (j := j) (by omega)
      rw [Nat.zero_add, hu] at hj
      rw [Addr.add_lit, Nat.zero_add]
      rw [← hj]; exact hu
    have hsrc : Src Try.prog i.size 29 (.slice (some ⟨g, (k + 1) * 2, none⟩) (ps.length - (k + 1)) c) (ps.length - (k + 1)) (cellsAt w g ((k + 1) * 2) ((ps.length - (k + 1)) * 2)) w := by
      refine Src.ofSlice w Try.underlying29 _ _ c _ (by rw [cellsAt_len, hz1]) (fun j u hj => ?_) (fun u hu => ?_)
      · have hjl := (List.getElem?_eq_some_iff.1 hj).1
        rw [cellsAt_len] at hjl
        rw [cellsAt_at hjl] at hj
        obtain ⟨u', hu, _⟩ := hL.cell (j := (k + 1) * 2 + j) (by omega)
        rw [hu] at hj
        rw [Addr.add_lit, ← hj]; exact hu
      · obtain ⟨j, hj⟩ := List.mem_iff_getElem?.1 hu
        have hjl := (List.getElem?_eq_some_iff.1 hj).1
        rw [cellsAt_len] at hjl
        rw [cellsAt_at hjl] at hj
        obtain ⟨u', hu, h1⟩ := hL.cell (j := (k + 1) * 2 + j) (by omega)
        rw [hu] at hj
        injection hj with hj
        rw [← hj]; exact h1
    have hsl := nextslicecap_le (need := k + (ps.length - (k + 1))) (old := k) (by omega)
    have hrun := run_append_grow_src w 29 29 o.type _ i z Try.underlying29 hi hz0 (some ⟨g, 0, none⟩) k k _ hold _ _ _ hsrc (by omega) (by omega) (by rw [hz2]; omega)
    refine wpList_plain hgd fun K hK => ?_
    unfold Oper.wp execOp
    simp only [ho, resolve, invoke, builtin, Sem.run_bind, Sem.run_pure, Result.andThen_ok, List.map_toArray, List.map_cons, List.map_nil, hs, hx, hrun]
    have hge := grownCap_ge w (k + (ps.length - (k + 1))) k 35
    have hmx := grownCap_le_maxLen w (k + (ps.length - (k + 1))) k 35 (by unfold maxLen; omega)
    generalize grownCap w (k + (ps.length - (k + 1))) k 35 = c' at hge hmx ⊢
    have kn := Known.made w.drew 35 ((cellsAt w g 0 (k * 2) ++ cellsAt w g ((k + 1) * 2) ((ps.length - (k + 1)) * 2)).toArray ++ Builtin.zeroCells z.cells (c' - (k + (ps.length - (k + 1)))))
    have hbl : Below w.heap.size w (w.drew.alloc (.cells ((cellsAt w g 0 (k * 2) ++ cellsAt w g ((k + 1) * 2) ((ps.length - (k + 1)) * 2)).toArray ++ Builtin.zeroCells z.cells (c' - (k + (ps.length - (k + 1))))) 35)) := (below_drew (Below.refl _ _)).alloc (Nat.le_refl _) _
    have hat : ∀ j u, (cellsAt w g 0 (k * 2) ++ cellsAt w g ((k + 1) * 2) ((ps.length - (k + 1)) * 2))[j]? = some u → (w.drew.alloc (.cells ((cellsAt w g 0 (k * 2) ++ cellsAt w g ((k + 1) * 2) ((ps.length - (k + 1)) * 2)).toArray ++ Builtin.zeroCells z.cells (c' - (k + (ps.length - (k + 1))))) 35)).cell? ⟨w.heap.size, j, none⟩ = some u := fun j u hj => by
      refine (kn.cell j).trans ?_
      have hjl := (List.getElem?_eq_some_iff.1 hj).1
      rw [Array.getElem?_append_left (by simpa using hjl)]
      simpa using hj
    have hfin := h w.heap.size c' _ (Lib.hid ⟨hB, kn.lt, by rw [without_len hk]; omega, hmx, fun j hj => ⟨?_, kn.free j⟩, fun j p hp => ?_⟩) (Lib.hid (hb.trans (hbl.mono hB)))
    · rw [show ps.length - 1 = k + (ps.length - (k + 1)) by omega] at hfin
      exact hK _ _ hfin
    · refine Eq.trans (congrArg Option.isSome (kn.cell j)) ?_
      rw [Array.getElem?_eq_getElem (by simp [cellsAt_len, size_zeroCells, hz3]; omega)]; rfl
    · have hpl := (List.getElem?_eq_some_iff.1 hp).1
      rw [without_len hk] at hpl
      rw [without_at hk] at hp
      split at hp
      · rename_i hjk
        refine moved hL hbl hat hp fun d hd => ?_
        rw [List.getElem?_append_left (by rw [cellsAt_len]; omega), cellsAt_at (by omega), Nat.zero_add]
      · rename_i hjk
        refine moved hL hbl hat hp fun d hd => ?_
        rw [List.getElem?_append_right (by rw [cellsAt_len]; omega), cellsAt_len, cellsAt_at (by omega), show (k + 1) * 2 + (j * 2 + d - k * 2) = (j + 1) * 2 + d by omega]

theorem put_cell {w : World} {p q : Addr} {x : Value} (h : (w.cell? p).isSome = true) : (w.setCell p x).cell? q = if p = q then some x else w.cell? q := by
  obtain ⟨u, hu⟩ := Option.isSome_iff_exists.1 h
  split
  · rename_i e; subst e; exact World.cell?_setCell_same w p x hu
  · rename_i e; exact World.cell?_setCell_other w p q x e
theorem rowOff_put {w : World} {g i : Nat} {u x : Value} {r : List UInt8} (h : RowOff w (some g) u r) : RowOff (w.setCell ⟨g, i, none⟩ x) (some g) u r := by
  obtain ⟨C, c, h1, h2, h3, h4, h5⟩ := h
  by_cases hr : r = []
  · subst hr; exact ⟨C, c, h1, h2, h3, Reads.nil, fun hne => absurd rfl hne⟩
  · exact ⟨C, c, h1, h2, h3, h4.off (p := ⟨g, i, none⟩) (fun a ha e => (h5 hr a ha).1 (by rw [e])) x, fun _ a ha => ⟨(h5 hr a ha).1, by rw [show (w.setCell ⟨g, i, none⟩ x).heap.size = w.heap.size by simp]; exact (h5 hr a ha).2⟩⟩
theorem PList.put {w : World} {B g cap i : Nat} {ps : List Pc} {p : Pc} {u : Value} (h : PList w B g cap ps) (hi : i < ps.length) (hr : RowOff w (some g) u p.2) :
    PList ((w.setCell ⟨g, i * 2, none⟩ (.int .i64 p.1)).setCell ⟨g, i * 2 + 1, none⟩ u) B g cap (ps.set i p) := by
  have hle := h.le
  have t0 := (h.there (i * 2) (by omega)).1
  have t1 : ((w.setCell ⟨g, i * 2, none⟩ (.int .i64 p.1)).cell? ⟨g, i * 2 + 1, none⟩).isSome = true := by
    rw [put_cell t0]; split
    · rfl
    · exact (h.there (i * 2 + 1) (by omega)).1
  have hc : ∀ j, ((w.setCell ⟨g, i * 2, none⟩ (.int .i64 p.1)).setCell ⟨g, i * 2 + 1, none⟩ u).cell? ⟨g, j, none⟩ = if j = i * 2 + 1 then some u else if j = i * 2 then some (.int .i64 p.1) else w.cell? ⟨g, j, none⟩ := fun j => by
    rw [put_cell t1, put_cell t0]
    by_cases e1 : j = i * 2 + 1
    · subst e1; simp
    · rw [if_neg e1, if_neg (fun e => e1 (by injection e with _ e _; exact e.symm))]
      by_cases e2 : j = i * 2
      · subst e2; simp
      · rw [if_neg e2, if_neg (fun e => e2 (by injection e with _ e _; exact e.symm))]
  refine ⟨h.own, by simpa using h.lt, by rw [List.length_set]; exact hle, h.max, fun j hj => ⟨?_, by rw [World.frozen?_setCell, World.frozen?_setCell]; exact (h.there j hj).2⟩, fun k q hq => ?_⟩
  · rw [hc]; split
    · rfl
    · split
      · rfl
      · exact (h.there j hj).1
  · rw [List.getElem?_set] at hq
    rw [hc, hc]
    by_cases e : i = k
    · subst e
      rw [if_pos rfl, if_pos hi] at hq
      injection hq with hq
      subst hq
      rw [if_neg (by omega), if_pos rfl, if_pos rfl]
      exact ⟨rfl, u, rfl, rowOff_put (rowOff_put hr)⟩
    · rw [if_neg e] at hq
      rw [if_neg (by omega), if_neg (by omega), if_neg (by omega), if_neg (by omega)]
      obtain ⟨a1, u', a2, a3⟩ := h.at_ k q hq
      exact ⟨a1, u', a2, rowOff_put (rowOff_put a3)⟩
end Go.Proofs.Ytomhcjnhhdbhjaa.coderAny
