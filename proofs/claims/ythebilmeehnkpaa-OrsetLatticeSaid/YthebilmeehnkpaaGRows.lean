/-
  Slices of slices of structs of integer fields: read, brought in.
-/
import Derived.Test.YthebilmeehnkpaaGTab
namespace Go.Proofs.Ythebilmeehnkpaa.Gt
set_option linter.unusedVariables false
open Go.RowKit Mem
section
variable {α : Type} {sz : Nat} (E : Enc α sz)
/-- The cell u is a slice that holds l. -/
def IsG (W : World) (u : Value) (l : List α) : Prop := ∃ (C : Option Addr) (c : Nat), u = .slice C l.length c ∧ (l.length ≤ c ∧ c ≤ 9223372036854775807) ∧ l.length ≤ 140737488355328 ∧ Reads W C (flat E l)
def GRds (W : World) (A : Option Addr) (ls : List (List α)) : Prop := ∃ us, Reads W A us ∧ us.length = ls.length ∧ ∀ (k : Nat) (u : Value) (l : List α), us[k]? = some u → ls[k]? = some l → IsG E W u l
variable {E}
variable {W V : World} {A : Option Addr} {ls : List (List α)}
theorem IsG.below {u : Value} {l : List α} (h : IsG E W u l) (hb : Below W.heap.size W V) : IsG E V u l := by obtain ⟨C, c, h1, h2, h3, h4⟩ := h; exact ⟨C, c, h1, h2, h3, h4.below hb⟩
theorem GRds.below (h : GRds E W A ls) (hb : Below W.heap.size W V) : GRds E V A ls := by obtain ⟨us, h1, h2, h3⟩ := h; exact ⟨us, h1.below hb, h2, fun k u l hu hl => (h3 k u l hu hl).below hb⟩
theorem GRds.nil : GRds E W A [] := ⟨[], Reads.nil, rfl, fun k u l h _ => by simp at h⟩
theorem GRds.row (h : GRds E W A ls) {k : Nat} {l : List α} (hk : ls[k]? = some l) : ∃ b o C c, A = some ⟨b, o, none⟩ ∧ b < W.heap.size ∧ W.cell? ⟨b, o + k, none⟩ = some (.slice C l.length c) ∧ (l.length ≤ c ∧ c ≤ 9223372036854775807) ∧ l.length ≤ 140737488355328 ∧ Reads W C (flat E l) := by
  obtain ⟨us, h1, h2, h3⟩ := h
  have hlt := (List.getElem?_eq_some_iff.1 hk).1
  have e1 : us[k]? = some us[k] := List.getElem?_eq_getElem (by omega)
  obtain ⟨b, o, ha, hb, hc⟩ := h1 k _ e1
  obtain ⟨C, c, hu, h4, h5, h6⟩ := h3 k _ _ e1 hk
  exact ⟨b, o, C, c, ha, hb, by rw [hc, hu], h4, h5, h6⟩
end
section
open Go.ChangeShapes Go.WideShapes Go.Deep
variable {H : Type} {enc : TypeId × Value → H} {P : Program}
theorem weights_all {P : Program} {e : TypeId} : ∀ {l : List (DataW H)} {d : DataW H}, d ∈ l → ∀ n ∈ d.weights P e, n ∈ DataW.weightsAll P e l
  | x :: l, d, h, n, hn => by
    rw [DataW.weightsAll, List.mem_append]
    rcases List.mem_cons.1 h with rfl | h
    · exact .inl hn
    · exact .inr (weights_all h n hn)
  | [], d, h, _, _ => by cases h
theorem open_gg {α : Type} [Inhabited α] {sz : Nat} (E : Enc α sz) (f : List Int → α) (ks : List IntKind) (hks : ks.length = sz) (h0 : 0 < sz) (hf : ∀ r, RawOk ks r → E.enc (f r) = raw ks r)
    {t q e : TypeId} {fs : Array Field} {bytes : Nat} (ht : P.underlying t = some (.slice q)) (hq : P.underlying q = some (.slice e)) (hs : P.underlying e = some (.struct fs)) (hone : oneCellFields P fs = true) (hC : P.cellsOf e = sz) (hby : P.bytesOf e = bytes) (hfs : fs.size = sz) (hcq : P.cellsOf q = 1) (h24 : P.bytesOf q = 24) (hb0 : 0 < bytes)
    (hk : ∀ (j : Nat) (g : Field), fs[j]? = some g → ∃ k, ks[j]? = some k ∧ P.underlying g.type = some (.int k))
    {W : World} {base : Nat} {v : Value} {d : DataW H} {p : List MemPlace} (hval : Value.okWide P W .any base t v) (h : DataW.Trod enc P W 0 (fun _ => true) true t v d p)
    {ts : List TypeId} {ds : List (DataW H)} (hz : (DataW.weightsEach P ts ds).all (· ≤ reachBytes) = true) {j : Nat} (htj : ts[j]? = some t) (hdj : ds[j]? = some d) :
    ∃ (A : Option Addr) (cap : Nat) (ls : List (List α)), v = .slice A ls.length cap ∧ ls.length ≤ 5864062014805 ∧ ls.length ≤ cap ∧ cap ≤ 5864062014805 ∧ GRds E W A ls ∧ ∀ l ∈ ls, ∀ y ∈ l, ∃ r, RawOk ks r ∧ y = f r := by
  obtain ⟨a1, len, cap, rfl⟩ := okWide_slice ht hval
  obtain ⟨fuel, hfu⟩ := h
  rcases Go.Deep.open_slice1 ht hcq hfu with ⟨hcs, hx⟩ | ⟨a, len', cap', m, n, V, D, Pl, hcs, _, hl, hm, hmm, hx, hcell⟩
  · simp [Value.cells] at hcs
    obtain ⟨rfl, rfl, rfl⟩ := hcs
    exact ⟨none, 0, [], rfl, by simp, by simp, by simp, GRds.nil, fun r hr => by simp at hr⟩
  · simp [Value.cells] at hcs
    obtain ⟨rfl, rfl, rfl⟩ := hcs
    simp only [if_true] at hmm
    subst hmm
    simp only [Prod.mk.injEq] at hx
    obtain ⟨hx1, hx2⟩ := hx
    subst hx1
    have hwd : ∀ n ∈ DataW.weights P t (.slice ((List.range len).map D) ((List.range (m - len)).map fun j => D (len + j))), n ≤ reachBytes := fun n hn => by
      have := List.all_eq_true.1 hz _ (DataW.weights_mem_each htj hdj n hn)
      simpa using this
    have hcap : m * 24 ≤ reachBytes := by
      have := hwd (((List.range len).map D).length * P.bytesOf q + ((List.range (m - len)).map fun j => D (len + j)).length * P.bytesOf q) (by simp [DataW.weights, ht, Nat.add_mul])
      rw [h24] at this
      simp at this
      omega
    have hcap2 : m ≤ 5864062014805 := by unfold reachBytes at hcap; omega
    obtain ⟨R, hR⟩ := Go.Deep.choose_lt (α := List α) (n := len) (p := fun i r => IsG E W (V i) r ∧ ∀ y ∈ r, ∃ q, RawOk ks q ∧ y = f q) (fun i hi => by
      obtain ⟨A, c, l, e1, e2, e3, e4, e5⟩ := open_g E f ks hks h0 hf hq hs hone hC hby hfs hk (hcell i (by omega)).2 (fun n hn => hwd n (by
        simp only [DataW.weights, ht]
        refine List.mem_cons_of_mem _ (List.mem_append_left _ (weights_all (d := D i) (List.mem_map.2 ⟨i, List.mem_range.2 hi, rfl⟩) n hn))))
      have hc : c ≤ 140737488355328 := by
        unfold reachBytes at e3
        exact Nat.le_trans (Nat.le_mul_of_pos_right c hb0) (by omega)
      exact ⟨l, ⟨A, c, e1, ⟨e2, by omega⟩, by omega, e5⟩, e4⟩)
    refine ⟨some a, m, (List.range len).map R, by simp, by simp; omega, by simp; omega, hcap2, ⟨(List.range len).map V, ?_, by simp, ?_⟩, ?_⟩
    · intro k v hv
      have hk : k < len := by
        rcases Nat.lt_or_ge k len with h | h
        · exact h
        · rw [List.getElem?_eq_none (by simp; omega)] at hv; cases hv
      rw [List.getElem?_map, List.getElem?_range hk] at hv
      simp at hv
      subst hv
      obtain ⟨ab, ao, spot⟩ := a
      have hspot : spot = none := by simpa [Addr.add] using World.cell?_spot (hcell 0 (by omega)).1
      subst hspot
      have hcj := (hcell k (by omega)).1
      rw [Addr.add_lit] at hcj
      exact ⟨ab, ao, rfl, World.block_lt_of_cell? _ _ hcj, hcj⟩
    · intro k u r hu hr
      have hk : k < len := by
        rcases Nat.lt_or_ge k len with h | h
        · exact h
        · rw [List.getElem?_eq_none (by simp; omega)] at hu; cases hu
      rw [List.getElem?_map, List.getElem?_range hk] at hu hr
      simp at hu hr
      subst hu hr
      exact (hR k hk).1
    · intro r hr
      obtain ⟨k, hk, rfl⟩ := List.mem_map.1 hr
      exact (hR k (List.mem_range.1 hk)).2
end
end Go.Proofs.Ythebilmeehnkpaa.Gt
