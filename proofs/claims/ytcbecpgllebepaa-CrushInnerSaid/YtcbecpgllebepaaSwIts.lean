/-
  A slice of items that came in, within the form's reach.
-/
import Derived.Test.YtcbecpgllebepaaSwMem
import Derived.SizedLaws
namespace Go.Proofs.Ytcbecpgllebepaa.Straw
set_option linter.unusedVariables false
set_option linter.unusedSimpArgs false
open Go.RowKit Mem
section
open Go.ChangeShapes Go.WideShapes Go.Deep
variable {H : Type} {enc : TypeId × Value → H} {P : Program}
theorem open_itsZ_of {t e : TypeId} {f0 f1 : Field} (ht : P.underlying t = some (.slice e)) (hs : P.underlying e = some (.struct #[f0, f1])) (hone : oneCellFields P #[f0, f1] = true) (hC : P.cellsOf e = 2) (h16 : P.bytesOf e = 16)
    (h0 : P.underlying f0.type = some (.int .i64)) (h1 : P.underlying f1.type = some (.int .i64))
    {W : World} {base : Nat} {v : Value} {d : DataW H} {p : List MemPlace} (hval : Value.okWide P W .any base t v) (h : DataW.Trod enc P W 0 (fun _ => true) true t v d p)
    {ts : List TypeId} {ds : List (DataW H)} (hz : (DataW.weightsEach P ts ds).all (· ≤ reachBytes) = true) {j : Nat} (htj : ts[j]? = some t) (hdj : ds[j]? = some d) :
    ∃ (A : Option Addr) (cap : Nat) (ts : List It), v = .slice A ts.length cap ∧ ts.length ≤ 8796093022208 ∧ ts.length ≤ cap ∧ cap ≤ 8796093022208 ∧ WRds W A ts ∧ ∀ t ∈ ts, (Lit.int .i64 t.1).wf = true ∧ (Lit.int .i64 t.2).wf = true := by
  obtain ⟨a1, len, cap, rfl⟩ := okWide_slice ht hval
  obtain ⟨fuel, hf⟩ := h
  rcases Go.Deep.open_slice ht hf with ⟨hcs, hx⟩ | ⟨a, len', cap', m, n, D, Pl, hcs, _, hl, hm, hmm, hx, hcell⟩
  · simp [Value.cells] at hcs
    obtain ⟨rfl, rfl, rfl⟩ := hcs
    exact ⟨none, 0, [], rfl, by simp, by simp, by simp, WRds.nil, fun r hr => by simp at hr⟩
  · simp [Value.cells] at hcs
    obtain ⟨rfl, rfl, rfl⟩ := hcs
    simp only [if_true] at hmm
    subst hmm
    simp only [Prod.mk.injEq] at hx
    obtain ⟨hx1, hx2⟩ := hx
    subst hx1
    rw [hC] at hcell
    have hwd : ∀ n ∈ DataW.weights P t (.slice ((List.range len).map D) ((List.range (m - len)).map fun j => D (len + j))), n ≤ reachBytes := fun n hn => by
      have := List.all_eq_true.1 hz _ (DataW.weights_mem_each htj hdj n hn)
      simpa using this
    have hcap : m * 16 ≤ reachBytes := by
      have := hwd (((List.range len).map D).length * P.bytesOf e + ((List.range (m - len)).map fun j => D (len + j)).length * P.bytesOf e) (by simp [DataW.weights, ht, Nat.add_mul])
      rw [h16] at this
      simp at this
      omega
    have hcap2 : m ≤ 8796093022208 := by unfold reachBytes at hcap; omega
    obtain ⟨o0, k0⟩ := hone_of hone 0 f0 rfl
    obtain ⟨o1, k1⟩ := hone_of hone 1 f1 rfl
    obtain ⟨R, hR⟩ := Go.Deep.choose_lt (α := It) (n := len) (p := fun i r => W.cell? (a.add (i * 2)) = some (.int .i64 r.1) ∧ W.cell? ((a.add (i * 2)).add 1) = some (.int .i64 r.2) ∧ (Lit.int .i64 r.1).wf = true ∧ (Lit.int .i64 r.2).wf = true) (fun i hi => by
      obtain ⟨cs', hcs', htr⟩ := hcell i (by omega)
      obtain ⟨ys, n', _, hy, hlen, hyl, hg⟩ := DataW.trod_struct hs htr
      obtain ⟨_, hsz, hat⟩ := World.cells?_some hcs'
      match cs', hsz with
      | [c0, c1], _ =>
        match ys, hyl with
        | [y0, y1], _ =>
          have g0 : DataW.trod enc P W 0 (fun _ => true) true n' f0.type [c0] = some y0 := by simpa [o0, k0] using hg 0 f0 rfl
          have g1 : DataW.trod enc P W 0 (fun _ => true) true n' f1.type [c1] = some y1 := by simpa [o1, k1] using hg 1 f1 rfl
          obtain ⟨z, hz0, hz1, hz2⟩ := DataW.trod_int h0 g0
          obtain ⟨y, hy0, hy1, hy2⟩ := DataW.trod_int h1 g1
          simp at hz0 hy0
          exact ⟨(z, y), by have := hat 0 (by omega); simpa [hz0, Addr.add] using this, by have := hat 1 (by omega); simpa [hy0] using this, hz2, hy2⟩)
    refine ⟨some a, m, (List.range len).map R, by simp, by simp; omega, by simp; omega, by omega, ?_, ?_⟩
    · intro k p hp
      have hk : k < len := by
        rcases Nat.lt_or_ge k len with h | h
        · exact h
        · rw [List.getElem?_eq_none (by simp; omega)] at hp; cases hp
      rw [List.getElem?_map, List.getElem?_range hk] at hp
      simp at hp
      subst hp
      obtain ⟨r1, r2, _, _⟩ := hR k hk
      obtain ⟨ab, ao, spot⟩ := a
      have hspot : spot = none := by simpa [Addr.add] using World.cell?_spot (hR 0 (by omega)).1
      subst hspot
      rw [Addr.add_lit] at r1 r2
      rw [Addr.add_lit] at r2
      exact ⟨ab, ao, rfl, World.block_lt_of_cell? _ _ r1, r1, r2⟩
    · intro r hr
      obtain ⟨k, hk, rfl⟩ := List.mem_map.1 hr
      exact (hR k (List.mem_range.1 hk)).2.2
theorem itBytes : Try.prog.bytesOf 47 = 16 := by kernel_rfl
set_option maxRecDepth 100000 in
theorem open_itsZ {W : World} {base : Nat} {v : Value} {d : DataW H} {p : List MemPlace} (hval : Value.okWide Try.prog W .any base 41 v) (h : DataW.Trod enc Try.prog W 0 (fun _ => true) true 41 v d p)
    {ts : List TypeId} {ds : List (DataW H)} (hz : (DataW.weightsEach Try.prog ts ds).all (· ≤ reachBytes) = true) {j : Nat} (htj : ts[j]? = some 41) (hdj : ds[j]? = some d) :
    ∃ (A : Option Addr) (cap : Nat) (ts : List It), v = .slice A ts.length cap ∧ ts.length ≤ 8796093022208 ∧ ts.length ≤ cap ∧ cap ≤ 8796093022208 ∧ WRds W A ts ∧ ∀ t ∈ ts, (Lit.int .i64 t.1).wf = true ∧ (Lit.int .i64 t.2).wf = true :=
  open_itsZ_of Try.underlying41 fieldsIt itOne itCells itBytes Try.underlying3 Try.underlying3 hval h hz htj hdj
end
end Go.Proofs.Ytcbecpgllebepaa.Straw
