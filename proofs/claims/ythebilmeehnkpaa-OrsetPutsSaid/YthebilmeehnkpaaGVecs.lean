/-
  Slices of slices of numbers: read, brought in.
-/
import Derived.Test.YthebilmeehnkpaaRds
namespace Go.Proofs.Ythebilmeehnkpaa.Gt
set_option linter.unusedVariables false
open Go.RowKit Mem
/-- The cell u is a slice that holds the numbers l. -/
def IsV (W : World) (u : Value) (l : List Int) : Prop := ∃ (C : Option Addr) (c : Nat), u = .slice C l.length c ∧ (l.length ≤ c ∧ c ≤ 9223372036854775807) ∧ l.length ≤ 140737488355328 ∧ Reads W C (l.map (Value.int .i64))
def VRds (W : World) (A : Option Addr) (ls : List (List Int)) : Prop := ∃ us, Reads W A us ∧ us.length = ls.length ∧ ∀ (k : Nat) (u : Value) (l : List Int), us[k]? = some u → ls[k]? = some l → IsV W u l
section
variable {W V : World} {A : Option Addr} {ls : List (List Int)}
theorem IsV.below {u : Value} {l : List Int} (h : IsV W u l) (hb : Below W.heap.size W V) : IsV V u l := by obtain ⟨C, c, h1, h2, h3, h4⟩ := h; exact ⟨C, c, h1, h2, h3, h4.below hb⟩
theorem VRds.below (h : VRds W A ls) (hb : Below W.heap.size W V) : VRds V A ls := by obtain ⟨us, h1, h2, h3⟩ := h; exact ⟨us, h1.below hb, h2, fun k u l hu hl => (h3 k u l hu hl).below hb⟩
theorem VRds.nil : VRds W A [] := ⟨[], Reads.nil, rfl, fun k u l h _ => by simp at h⟩
theorem VRds.row (h : VRds W A ls) {k : Nat} {l : List Int} (hk : ls[k]? = some l) : ∃ b o C c, A = some ⟨b, o, none⟩ ∧ b < W.heap.size ∧ W.cell? ⟨b, o + k, none⟩ = some (.slice C l.length c) ∧ (l.length ≤ c ∧ c ≤ 9223372036854775807) ∧ l.length ≤ 140737488355328 ∧ Reads W C (l.map (Value.int .i64)) := by
  obtain ⟨us, h1, h2, h3⟩ := h
  have hlt := (List.getElem?_eq_some_iff.1 hk).1
  have e1 : us[k]? = some us[k] := List.getElem?_eq_getElem (by omega)
  obtain ⟨b, o, ha, hb, hc⟩ := h1 k _ e1
  obtain ⟨C, c, hu, h4, h5, h6⟩ := h3 k _ _ e1 hk
  exact ⟨b, o, C, c, ha, hb, by rw [hc, hu], h4, h5, h6⟩
theorem VRds.take (h : VRds W A ls) (n : Nat) : VRds W A (ls.take n) := by
  obtain ⟨us, h1, h2, h3⟩ := h
  refine ⟨us.take n, h1.take n, by rw [List.length_take, List.length_take, h2], fun k u r hu hr => ?_⟩
  rw [List.getElem?_take] at hu hr
  split at hu
  · rename_i hk
    rw [if_pos hk] at hr
    exact h3 k u r hu hr
  · cases hu
end
section
open Go.ChangeShapes Go.WideShapes Go.Deep
variable {H : Type} {enc : TypeId × Value → H} {P : Program}
theorem vec_cell {t e : TypeId} (ht : P.underlying t = some (.slice e)) (he : P.underlying e = some (.int .i64)) (hC : P.cellsOf e = 1) (h8 : P.bytesOf e = 8)
    {W : World} {fuel : Nat} {v : Value} {x : DataW H × List MemPlace} (hf : DataW.trod enc P W 0 (fun _ => true) true fuel t [v] = some x) (hw : ∀ n ∈ x.1.weights P t, n ≤ reachBytes) :
    ∃ l : List Int, IsV W v l ∧ l.length ≤ 17592186044416 ∧ ∀ z ∈ l, (Lit.int .i64 z).wf = true := by
  rcases open_ints ht he hC hf with ⟨hcs, hx⟩ | ⟨a, len, cap, zs, hcs, _, hl, hm, hzl, hx, hcell, hwz⟩
  · simp at hcs
    subst hcs
    exact ⟨[], ⟨none, 0, rfl, by simp, by simp, Reads.nil⟩, by simp, fun z hz => by simp at hz⟩
  · simp at hcs
    subst hcs
    simp only [if_true] at hzl
    subst hx
    have hcap : cap * 8 ≤ reachBytes := by
      have := hw ((lits .i64 (zs.take len) : List (DataW H)).length * P.bytesOf e + (lits .i64 (zs.drop len) : List (DataW H)).length * P.bytesOf e) (by simp [DataW.weights, ht, Nat.add_mul])
      rw [h8] at this
      simp [lits] at this
      omega
    have hcap2 : cap ≤ 17592186044416 := by unfold reachBytes at hcap; omega
    have hlen : (zs.take len).length = len := by rw [List.length_take]; omega
    refine ⟨zs.take len, ⟨some a, cap, by rw [hlen], by rw [hlen]; omega, by rw [hlen]; omega, ?_⟩, by rw [hlen]; omega, fun z hz => hwz z (List.mem_of_mem_take hz)⟩
    intro k v hv
    rw [List.getElem?_map] at hv
    have hk : k < len := by
      rcases Nat.lt_or_ge k len with h | h
      · exact h
      · rw [List.getElem?_eq_none (by omega)] at hv; cases hv
    rw [List.getElem?_take_of_lt hk, List.getElem?_eq_getElem (by omega)] at hv
    obtain ⟨ab, ao, spot⟩ := a
    have hspot : spot = none := by simpa [Addr.add] using World.cell?_spot (hcell 0 (by omega))
    subst hspot
    have hcj := hcell k (by omega)
    rw [Addr.add_lit] at hcj
    have e : zs.getD k 0 = zs[k]'(by omega) := by simp [List.getD, List.getElem?_eq_getElem (show k < zs.length by omega)]
    rw [List.getD_eq_getElem?_getD] at e hcj
    rw [e] at hcj
    refine ⟨ab, ao, rfl, World.block_lt_of_cell? _ _ hcj, ?_⟩
    rw [hcj, ← hv]
    rfl
/-- A slice of slices of numbers that came in. -/
theorem open_vv {t q e : TypeId} (ht : P.underlying t = some (.slice q)) (hq : P.underlying q = some (.slice e)) (he : P.underlying e = some (.int .i64)) (hcq : P.cellsOf q = 1) (hc : P.cellsOf e = 1) (h8 : P.bytesOf e = 8) (h24 : P.bytesOf q = 24)
    {W : World} {base : Nat} {v : Value} {d : DataW H} {p : List MemPlace} (hval : Value.okWide P W .any base t v) (h : DataW.Trod enc P W 0 (fun _ => true) true t v d p)
    {ts : List TypeId} {ds : List (DataW H)} (hz : (DataW.weightsEach P ts ds).all (· ≤ reachBytes) = true) {j : Nat} (htj : ts[j]? = some t) (hdj : ds[j]? = some d) :
    ∃ (A : Option Addr) (cap : Nat) (rows : List (List Int)), v = .slice A rows.length cap ∧ rows.length ≤ 5864062014805 ∧ rows.length ≤ cap ∧ cap ≤ 5864062014805 ∧ VRds W A rows ∧ ∀ r ∈ rows, r.length ≤ 17592186044416 ∧ ∀ z ∈ r, (Lit.int .i64 z).wf = true := by
  obtain ⟨a1, len, cap, rfl⟩ := okWide_slice ht hval
  obtain ⟨fuel, hf⟩ := h
  rcases Go.Deep.open_slice1 ht hcq hf with ⟨hcs, hx⟩ | ⟨a, len', cap', m, n, V, D, Pl, hcs, _, hl, hm, hmm, hx, hcell⟩
  · simp [Value.cells] at hcs
    obtain ⟨rfl, rfl, rfl⟩ := hcs
    exact ⟨none, 0, [], rfl, by simp, by simp, by simp, VRds.nil, fun r hr => by simp at hr⟩
  · simp [Value.cells] at hcs
    obtain ⟨rfl, rfl, rfl⟩ := hcs
    simp only [if_true] at hmm
    subst hmm
    simp only [Prod.mk.injEq] at hx
    obtain ⟨hx1, hx2⟩ := hx
    subst hx1
    have hwd : ∀ n ∈ DataW.weights P t (.slice ((List.range len).map D) ((List.range (m - len)).map fun j => D (len + j))), n ≤ reachBytes := fun n hn => by
      have := List.all_eq_true.1 hz _ (DataW.weights_mem_each htj hdj n hn)
      simpa using this
    have hcap : m * 24 ≤ reachBytes := by
      have := hwd (((List.range len).map D).length * P.bytesOf q + ((List.range (m - len)).map fun j => D (len + j)).length * P.bytesOf q) (by simp [DataW.weights, ht, Nat.add_mul])
      rw [h24] at this
      simp at this
      omega
    have hcap2 : m ≤ 5864062014805 := by unfold reachBytes at hcap; omega
    obtain ⟨R, hR⟩ := Go.Deep.choose_lt (α := List Int) (n := len) (p := fun i r => IsV W (V i) r ∧ r.length ≤ 17592186044416 ∧ ∀ z ∈ r, (Lit.int .i64 z).wf = true) (fun i hi => vec_cell hq he hc h8 (hcell i (by omega)).2 (fun n hn => hwd n (by
      simp only [DataW.weights, ht]
      refine List.mem_cons_of_mem _ (List.mem_append_left _ (weights_mem_all (d := D i) (List.mem_map.2 ⟨i, List.mem_range.2 hi, rfl⟩) n hn)))))
    refine ⟨some a, m, (List.range len).map R, by simp, by simp; omega, by simp; omega, hcap2, ⟨(List.range len).map V, ?_, by simp, ?_⟩, ?_⟩
    · intro k v hv
      have hk : k < len := by
        rcases Nat.lt_or_ge k len with h | h
        · exact h
        · rw [List.getElem?_eq_none (by simp; omega)] at hv; cases hv
      rw [List.getElem?_map, List.getElem?_range hk] at hv
      simp at hv
      subst hv
      obtain ⟨ab, ao, spot⟩ := a
      have hspot : spot = none := by simpa [Addr.add] using World.cell?_spot (hcell 0 (by omega)).1
      subst hspot
      have hcj := (hcell k (by omega)).1
      rw [Addr.add_lit] at hcj
      exact ⟨ab, ao, rfl, World.block_lt_of_cell? _ _ hcj, hcj⟩
    · intro k u r hu hr
      have hk : k < len := by
        rcases Nat.lt_or_ge k len with h | h
        · exact h
        · rw [List.getElem?_eq_none (by simp; omega)] at hu; cases hu
      rw [List.getElem?_map, List.getElem?_range hk] at hu hr
      simp at hu hr
      subst hu hr
      exact (hR k hk).1
    · intro r hr
      obtain ⟨k, hk, rfl⟩ := List.mem_map.1 hr
      exact (hR k (List.mem_range.1 hk)).2
end
end Go.Proofs.Ythebilmeehnkpaa.Gt
