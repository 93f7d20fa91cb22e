/-
  Slices of slices of bytes that are only read, and rows of slices that a call makes.
-/
import Derived.Test.YthebilmeehnkpaaSl
namespace Go.Proofs.Ythebilmeehnkpaa.Mem
set_option linter.unusedVariables false
open Go.RowKit Go.ChangeShapes Go.WideShapes

/-- The cell u is a slice that holds the bytes r. -/
def IsRow (W : World) (u : Value) (r : List UInt8) : Prop := ∃ (C : Option Addr) (c : Nat), u = .slice C r.length c ∧ r.length ≤ c ∧ r.length ≤ 9223372036854775807 ∧ Reads W C (r.map byt)
/-- The cells us are slices that hold the rows. -/
def AreRows (W : World) (us : List Value) (rows : List (List UInt8)) : Prop := us.length = rows.length ∧ ∀ (k : Nat) (u : Value) (r : List UInt8), us[k]? = some u → rows[k]? = some r → IsRow W u r
def Rds (W : World) (A : Option Addr) (rows : List (List UInt8)) : Prop := ∃ us, Reads W A us ∧ AreRows W us rows
section
variable {W V : World} {A : Option Addr} {rows : List (List UInt8)} {us : List Value} {u : Value} {r : List UInt8}
theorem IsRow.below (h : IsRow W u r) (hb : Below W.heap.size W V) : IsRow V u r := by obtain ⟨C, c, h1, h2, h3, h4⟩ := h; exact ⟨C, c, h1, h2, h3, h4.below hb⟩
theorem IsRow.drawn (h : IsRow W u r) (hd : Drawn W V) : IsRow V u r := h.below (hd.below _)
theorem AreRows.below (h : AreRows W us rows) (hb : Below W.heap.size W V) : AreRows V us rows := ⟨h.1, fun k u r h1 h2 => (h.2 k u r h1 h2).below hb⟩
theorem AreRows.nil : AreRows W [] [] := ⟨rfl, fun k u r h1 _ => by simp at h1⟩
theorem AreRows.snoc (h : AreRows W us rows) (hr : IsRow W u r) : AreRows W (us ++ [u]) (rows ++ [r]) := by
  refine ⟨by simp [h.1], fun k v q h1 h2 => ?_⟩
  by_cases hk : k < us.length
  · rw [List.getElem?_append_left hk] at h1
    rw [List.getElem?_append_left (by rw [← h.1]; exact hk)] at h2
    exact h.2 k v q h1 h2
  · rw [List.getElem?_append_right (by omega)] at h1
    rw [List.getElem?_append_right (by rw [← h.1]; omega), ← h.1] at h2
    have h0 : k - us.length = 0 := by
      rcases Nat.eq_zero_or_pos (k - us.length) with h3 | h3
      · exact h3
      · rw [List.getElem?_eq_none (by simp; omega)] at h1; cases h1
    rw [h0] at h1 h2
    simp at h1 h2
    subst h1 h2
    exact hr
theorem Rds.below (h : Rds W A rows) (hb : Below W.heap.size W V) : Rds V A rows := by obtain ⟨us, h1, h2⟩ := h; exact ⟨us, h1.below hb, h2.below hb⟩
theorem Rds.drawn (h : Rds W A rows) (hd : Drawn W V) : Rds V A rows := h.below (hd.below _)
theorem Rds.nil : Rds W A [] := ⟨[], Reads.nil, AreRows.nil⟩
theorem Rds.row (h : Rds W A rows) {k : Nat} (hk : k < rows.length) : ∃ b o C c r, A = some ⟨b, o, none⟩ ∧ rows[k]? = some r ∧ W.cell? ⟨b, o + k, none⟩ = some (.slice C r.length c) ∧ r.length ≤ c ∧ r.length ≤ 9223372036854775807 ∧ Reads W C (r.map byt) := by
  obtain ⟨us, h1, h2, h3⟩ := h
  have e1 : us[k]? = some us[k] := List.getElem?_eq_getElem (by omega)
  have e2 : rows[k]? = some rows[k] := List.getElem?_eq_getElem hk
  obtain ⟨b, o, ha, _, hc⟩ := h1 k _ e1
  obtain ⟨C, c, hu, h4, h5, h6⟩ := h3 k _ _ e1 e2
  exact ⟨b, o, C, c, rows[k], ha, e2, by rw [hc, hu], h4, h5, h6⟩
theorem Rds.take (h : Rds W A rows) (n : Nat) : Rds W A (rows.take n) := by
  obtain ⟨us, h1, h2, h3⟩ := h
  refine ⟨us.take n, h1.take n, by rw [List.length_take, List.length_take, h2], fun k u r hu hr => ?_⟩
  rw [List.getElem?_take] at hu hr
  split at hu
  · rename_i hk
    rw [if_pos hk] at hr
    exact h3 k u r hu hr
  · cases hu
theorem Gives.isRow {l : List UInt8} {e : Ending} {A : Option Addr} {cap : Nat} (h : l.length ≤ cap) (hc : l.length ≤ 9223372036854775807) (hr : Reads W A (l.map byt)) : IsRow W (.slice A l.length cap) l := ⟨A, cap, rfl, h, hc, hr⟩
end
section
variable {H : Type} {enc : TypeId × Value → H} {P : Program}
theorem open_cell {t e : TypeId} (ht : P.underlying t = some (.slice e)) (he : P.underlying e = some (.int .u8)) (hc : P.cellsOf e = 1) (h8 : P.bytesOf e = 1)
    {W : World} {fuel : Nat} {v : Value} {x : DataW H × List MemPlace} (hf : DataW.trod enc P W 0 (fun _ => true) true fuel t [v] = some x) (hw : ∀ n ∈ x.1.weights P t, n ≤ reachBytes) :
    ∃ r : List UInt8, IsRow W v r ∧ r.length ≤ 140737488351232 := by
  rcases open_ints ht he hc hf with ⟨hcs, hx⟩ | ⟨a, len, cap, zs, hcs, _, hl, hm, hz, hx, hcell, hwz⟩
  · simp at hcs
    subst hcs
    exact ⟨[], ⟨none, 0, rfl, by simp, by simp, Reads.nil⟩, by simp⟩
  · simp at hcs
    subst hcs
    simp only [if_true] at hz
    subst hx
    have hcap : cap ≤ 140737488351232 := by
      have h1 := hw ((lits (H := H) .u8 (zs.take len)).length * P.bytesOf e + (lits (H := H) .u8 (zs.drop len)).length * P.bytesOf e) (by
        show _ ∈ DataW.weights P t (.slice (lits .u8 (zs.take len)) (lits .u8 (zs.drop len)))
        simp [DataW.weights, ht, Nat.add_mul])
      rw [h8, Nat.mul_one, Nat.mul_one] at h1
      have h2 : (lits (H := H) .u8 (zs.take len)).length + (lits (H := H) .u8 (zs.drop len)).length = cap := by simp [lits]; omega
      rw [h2] at h1
      exact h1
    have hlen : ((zs.take len).map fun n => UInt8.ofNat n.toNat).length = len := by simp; omega
    refine ⟨(zs.take len).map fun n => UInt8.ofNat n.toNat, ⟨some a, cap, by rw [hlen], by rw [hlen]; omega, by rw [hlen]; omega, ?_⟩, by rw [hlen]; omega⟩
    intro k v hv
    rw [List.map_map, List.getElem?_map] at hv
    have hk : k < len := by
      rcases Nat.lt_or_ge k len with h | h
      · exact h
      · rw [List.getElem?_eq_none (by simp; omega)] at hv; cases hv
    rw [List.getElem?_take_of_lt hk, List.getElem?_eq_getElem (by omega)] at hv
    obtain ⟨ab, ao, spot⟩ := a
    have hspot : spot = none := by simpa [Addr.add] using World.cell?_spot (hcell 0 (by omega))
    subst hspot
    have hcj := hcell k (by omega)
    rw [Addr.add_lit] at hcj
    have e : zs.getD k 0 = zs[k]'(by omega) := by simp [List.getD, List.getElem?_eq_getElem (show k < zs.length by omega)]
    have hb := range_u8 hwz k
    rw [List.getD_eq_getElem?_getD] at e hcj
    rw [e] at hb hcj
    refine ⟨ab, ao, rfl, World.block_lt_of_cell? _ _ hcj, ?_⟩
    rw [hcj, ← hv]
    show some (Value.int .u8 zs[k]) = some (Value.int .u8 ((UInt8.ofNat (zs[k]).toNat).toNat : Int))
    congr 2
    simp only [UInt8.toNat_ofNat']
    omega
theorem weights_mem_all {P : Program} {e : TypeId} : ∀ {l : List (DataW H)} {d : DataW H}, d ∈ l → ∀ n ∈ d.weights P e, n ∈ DataW.weightsAll P e l
  | x :: l, d, h, n, hn => by
    rw [DataW.weightsAll, List.mem_append]
    rcases List.mem_cons.1 h with rfl | h
    · exact .inl hn
    · exact .inr (weights_mem_all h n hn)
  | [], d, h, _, _ => by cases h
/-- A slice of slices of bytes that came in. -/
theorem open_rowsZ {t q e : TypeId} (ht : P.underlying t = some (.slice q)) (hq : P.underlying q = some (.slice e)) (he : P.underlying e = some (.int .u8)) (hcq : P.cellsOf q = 1) (hc : P.cellsOf e = 1) (h8 : P.bytesOf e = 1) (h24 : P.bytesOf q = 24)
    {W : World} {base : Nat} {v : Value} {d : DataW H} {p : List MemPlace} (hval : Value.okWide P W .any base t v) (h : DataW.Trod enc P W 0 (fun _ => true) true t v d p)
    {ts : List TypeId} {ds : List (DataW H)} (hz : (DataW.weightsEach P ts ds).all (· ≤ reachBytes) = true) {j : Nat} (htj : ts[j]? = some t) (hdj : ds[j]? = some d) :
    ∃ (A : Option Addr) (cap : Nat) (rows : List (List UInt8)), v = .slice A rows.length cap ∧ rows.length ≤ 5864062014805 ∧ rows.length ≤ cap ∧ cap ≤ 5864062014805 ∧ Rds W A rows ∧ ∀ r ∈ rows, r.length ≤ 140737488351232 := by
  obtain ⟨a1, len, cap, rfl⟩ := okWide_slice ht hval
  obtain ⟨fuel, hf⟩ := h
  rcases Go.Deep.open_slice1 ht hcq hf with ⟨hcs, hx⟩ | ⟨a, len', cap', m, n, V, D, Pl, hcs, _, hl, hm, hmm, hx, hcell⟩
  · simp [Value.cells] at hcs
    obtain ⟨rfl, rfl, rfl⟩ := hcs
    exact ⟨none, 0, [], rfl, by simp, by simp, by simp, Rds.nil, fun r hr => by simp at hr⟩
  · simp [Value.cells] at hcs
    obtain ⟨rfl, rfl, rfl⟩ := hcs
    simp only [if_true] at hmm
    subst hmm
    simp only [Prod.mk.injEq] at hx
    obtain ⟨hx1, hx2⟩ := hx
    subst hx1
    have hwd : ∀ n ∈ DataW.weights P t (.slice ((List.range len).map D) ((List.range (m - len)).map fun j => D (len + j))), n ≤ reachBytes := fun n hn => by
      have := List.all_eq_true.1 hz _ (DataW.weights_mem_each htj hdj n hn)
      simpa using this
    have hcap : m * 24 ≤ reachBytes := by
      have := hwd (((List.range len).map D).length * P.bytesOf q + ((List.range (m - len)).map fun j => D (len + j)).length * P.bytesOf q) (by simp [DataW.weights, ht, Nat.add_mul])
      rw [h24] at this
      simp at this
      omega
    have hcap2 : m ≤ 5864062014805 := by unfold reachBytes at hcap; omega
    obtain ⟨R, hR⟩ := Go.Deep.choose_lt (α := List UInt8) (n := len) (p := fun i r => IsRow W (V i) r ∧ r.length ≤ 140737488351232) (fun i hi => open_cell hq he hc h8 (hcell i (by omega)).2 (fun n hn => hwd n (by
      simp only [DataW.weights, ht]
      refine List.mem_cons_of_mem _ (List.mem_append_left _ (weights_mem_all (d := D i) (List.mem_map.2 ⟨i, List.mem_range.2 hi, rfl⟩) n hn)))))
    refine ⟨some a, m, (List.range len).map R, by simp, by simp; omega, by simp; omega, hcap2, ⟨(List.range len).map V, ?_, by simp, ?_⟩, ?_⟩
    · intro k v hv
      have hk : k < len := by
        rcases Nat.lt_or_ge k len with h | h
        · exact h
        · rw [List.getElem?_eq_none (by simp; omega)] at hv; cases hv
      rw [List.getElem?_map, List.getElem?_range hk] at hv
      simp at hv
      subst hv
      obtain ⟨ab, ao, spot⟩ := a
      have hspot : spot = none := by simpa [Addr.add] using World.cell?_spot (hcell 0 (by omega)).1
      subst hspot
      have hcj := (hcell k (by omega)).1
      rw [Addr.add_lit] at hcj
      exact ⟨ab, ao, rfl, World.block_lt_of_cell? _ _ hcj, hcj⟩
    · intro k u r hu hr
      have hk : k < len := by
        rcases Nat.lt_or_ge k len with h | h
        · exact h
        · rw [List.getElem?_eq_none (by simp; omega)] at hu; cases hu
      rw [List.getElem?_map, List.getElem?_range hk] at hu hr
      simp at hu hr
      subst hu hr
      exact (hR k hk).1
    · intro r hr
      obtain ⟨k, hk, rfl⟩ := List.mem_map.1 hr
      exact (hR k (List.mem_range.1 hk)).2
end
end Go.Proofs.Ythebilmeehnkpaa.Mem
