/-
  Slices of pieces (a number and a slice of bytes) that are only read.
-/
import Derived.Test.YtomhcjnhhdbhjaaRds
import Derived.Deep.Fields
namespace Go.Proofs.Ytomhcjnhhdbhjaa.Mem
set_option linter.unusedVariables false
open Go.RowKit Go.ChangeShapes Go.WideShapes Go.Deep

abbrev Pc := Int × List UInt8
/-- A slice's address leads to the pieces: each a number and a row. -/
def Pcs (W : World) (A : Option Addr) (ps : List Pc) : Prop :=
  ∀ (k : Nat) (p : Pc), ps[k]? = some p → ∃ b o u, A = some ⟨b, o, none⟩ ∧ b < W.heap.size ∧ W.cell? ⟨b, o + k * 2, none⟩ = some (.int .i64 p.1) ∧ W.cell? ⟨b, o + k * 2 + 1, none⟩ = some u ∧ IsRow W u p.2
section
variable {W V : World} {A : Option Addr} {ps : List Pc}
theorem Pcs.nil : Pcs W A [] := fun k p h => by simp at h
theorem Pcs.below (h : Pcs W A ps) (hb : Below W.heap.size W V) : Pcs V A ps := fun k p hp => by
  obtain ⟨b, o, u, h1, h2, h3, h4, h5⟩ := h k p hp
  exact ⟨b, o, u, h1, Nat.lt_of_lt_of_le h2 hb.size, (hb.cell (p := ⟨b, _, none⟩) h2).trans h3, (hb.cell (p := ⟨b, _, none⟩) h2).trans h4, h5.below hb⟩
theorem Pcs.drawn (h : Pcs W A ps) (hd : Drawn W V) : Pcs V A ps := h.below (hd.below _)
theorem Pcs.piece (h : Pcs W A ps) {k : Nat} (hk : k < ps.length) : ∃ b o C c p, A = some ⟨b, o, none⟩ ∧ b < W.heap.size ∧ ps[k]? = some p ∧ W.cell? ⟨b, o + k * 2, none⟩ = some (.int .i64 p.1) ∧ W.cell? ⟨b, o + k * 2 + 1, none⟩ = some (.slice C p.2.length c) ∧ p.2.length ≤ c ∧ p.2.length ≤ 9223372036854775807 ∧ Reads W C (p.2.map byt) := by
  obtain ⟨b, o, u, h1, h2, h3, h4, C, c, rfl, h5, h6, h7⟩ := h k ps[k] (List.getElem?_eq_getElem hk)
  exact ⟨b, o, C, c, ps[k], h1, h2, List.getElem?_eq_getElem hk, h3, h4, h5, h6, h7⟩
end
section
variable {H : Type} {enc : TypeId × Value → H} {P : Program}
theorem open_pcsZ {t e q : TypeId} {f0 f1 : Field} (ht : P.underlying t = some (.slice e)) (hs : P.underlying e = some (.struct #[f0, f1])) (hone : oneCellFields P #[f0, f1] = true) (hC : P.cellsOf e = 2) (h32 : P.bytesOf e = 32)
    (h0 : P.underlying f0.type = some (.int .i64)) (h1 : P.underlying f1.type = some (.slice q)) (hq : P.underlying q = some (.int .u8)) (hcq : P.cellsOf q = 1) (h8 : P.bytesOf q = 1)
    {W : World} {base : Nat} {v : Value} {d : DataW H} {p : List MemPlace} (hval : Value.okWide P W .any base t v) (h : DataW.Trod enc P W 0 (fun _ => true) true t v d p)
    {ts : List TypeId} {ds : List (DataW H)} (hz : (DataW.weightsEach P ts ds).all (· ≤ reachBytes) = true) {j : Nat} (htj : ts[j]? = some t) (hdj : ds[j]? = some d) :
    ∃ (A : Option Addr) (cap : Nat) (ps : List Pc), v = .slice A ps.length cap ∧ ps.length ≤ 4398046511104 ∧ ps.length ≤ cap ∧ cap ≤ 4398046511104 ∧ Pcs W A ps ∧ ∀ p ∈ ps, (Lit.int .i64 p.1).wf = true ∧ p.2.length ≤ 140737488351232 := by
  obtain ⟨a1, len, cap, rfl⟩ := okWide_slice ht hval
  obtain ⟨fuel, hf⟩ := h
  rcases Go.Deep.open_slice ht hf with ⟨hcs, hx⟩ | ⟨a, len', cap', m, n, D, Pl, hcs, _, hl, hm, hmm, hx, hcell⟩
  · simp [Value.cells] at hcs
    obtain ⟨rfl, rfl, rfl⟩ := hcs
    exact ⟨none, 0, [], rfl, by simp, by simp, by simp, Pcs.nil, fun r hr => by simp at hr⟩
  · simp [Value.cells] at hcs
    obtain ⟨rfl, rfl, rfl⟩ := hcs
    simp only [if_true] at hmm
    subst hmm
    simp only [Prod.mk.injEq] at hx
    obtain ⟨hx1, hx2⟩ := hx
    subst hx1
    rw [hC] at hcell
    have hwd : ∀ n ∈ DataW.weights P t (.slice ((List.range len).map D) ((List.range (m - len)).map fun j => D (len + j))), n ≤ reachBytes := fun n hn => by
      have := List.all_eq_true.1 hz _ (DataW.weights_mem_each htj hdj n hn)
      simpa using this
    have hcap : m * 32 ≤ reachBytes := by
      have := hwd (((List.range len).map D).length * P.bytesOf e + ((List.range (m - len)).map fun j => D (len + j)).length * P.bytesOf e) (by simp [DataW.weights, ht, Nat.add_mul])
      rw [h32] at this
      simp at this
      omega
    have hcap2 : m ≤ 4398046511104 := by unfold reachBytes at hcap; omega
    obtain ⟨o0, k0⟩ := hone_of hone 0 f0 rfl
    obtain ⟨o1, k1⟩ := hone_of hone 1 f1 rfl
    obtain ⟨R, hR⟩ := Go.Deep.choose_lt (α := Pc) (n := len) (p := fun i r => W.cell? (a.add (i * 2)) = some (.int .i64 r.1) ∧ (∃ u, W.cell? ((a.add (i * 2)).add 1) = some u ∧ IsRow W u r.2) ∧ (Lit.int .i64 r.1).wf = true ∧ r.2.length ≤ 140737488351232) (fun i hi => by
      obtain ⟨cs', hcs', htr⟩ := hcell i (by omega)
      obtain ⟨ys, n', _, hy, hlen, hyl, hg⟩ := DataW.trod_struct hs htr
      obtain ⟨_, hsz, hat⟩ := World.cells?_some hcs'
      match cs', hsz with
      | [c0, c1], _ =>
        match ys, hyl with
        | [y0, y1], _ =>
          have g0 : DataW.trod enc P W 0 (fun _ => true) true n' f0.type [c0] = some y0 := by simpa [o0, k0] using hg 0 f0 rfl
          have g1 : DataW.trod enc P W 0 (fun _ => true) true n' f1.type [c1] = some y1 := by simpa [o1, k1] using hg 1 f1 rfl
          obtain ⟨z, hz0, hz1, hz2⟩ := DataW.trod_int h0 g0
          simp at hz0
          simp only [Prod.mk.injEq] at hy
          have hw : ∀ x ∈ y1.1.weights P f1.type, x ≤ reachBytes := fun x hx => hwd x (by
            simp only [DataW.weights, ht]
            refine List.mem_cons_of_mem _ (List.mem_append_left _ (weights_mem_all (d := D i) (List.mem_map.2 ⟨i, List.mem_range.2 hi, rfl⟩) x ?_))
            rw [hy.1]
            simp [DataW.weights, hs, DataW.weightsEach, hx])
          obtain ⟨r, hr1, hr2⟩ := open_cell h1 hq hcq h8 g1 hw
          exact ⟨(z, r), by have := hat 0 (by omega); simpa [hz0, Addr.add] using this, ⟨c1, by have := hat 1 (by omega); simpa using this, hr1⟩, hz2, hr2⟩)
    refine ⟨some a, m, (List.range len).map R, by simp, by simp; omega, by simp; omega, hcap2, ?_, ?_⟩
    · intro k p hp
      have hk : k < len := by
        rcases Nat.lt_or_ge k len with h | h
        · exact h
        · rw [List.getElem?_eq_none (by simp; omega)] at hp; cases hp
      rw [List.getElem?_map, List.getElem?_range hk] at hp
      simp at hp
      subst hp
      obtain ⟨r1, ⟨u, r2, r3⟩, _, _⟩ := hR k hk
      obtain ⟨ab, ao, spot⟩ := a
      have hspot : spot = none := by simpa [Addr.add] using World.cell?_spot (hR 0 (by omega)).1
      subst hspot
      rw [Addr.add_lit] at r1 r2
      rw [Addr.add_lit] at r2
      exact ⟨ab, ao, u, rfl, World.block_lt_of_cell? _ _ r1, r1, r2, r3⟩
    · intro r hr
      obtain ⟨k, hk, rfl⟩ := List.mem_map.1 hr
      exact (hR k (List.mem_range.1 hk)).2.2
end
end Go.Proofs.Ytomhcjnhhdbhjaa.Mem
