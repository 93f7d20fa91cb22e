/-
  StrawOrder over what the laws take of the program.
-/
import Derived.Test.YtcbecpgllebepaaSwScale
import Derived.Shelf.GgSortFunc.RowK
namespace Go.Proofs.Ytcbecpgllebepaa.Straw
set_option linter.unusedVariables false
set_option linter.unusedSimpArgs false
open Go.RowKit Mem
open Go.Sort (grow alloc_eq_grow grow_grow)

def encI2 (a : It) : List Value := [.int .i64 a.1, .int .i64 a.2]
theorem holds_w {B g n cap : Nat} {es : List It} {W : World} (hT : WTab W B (.slice (some ⟨g, 0, none⟩) n cap) es) (hn : es.length = n) : Sort.HoldsK encI2 2 W g 0 es.toArray := by
  have hd : es.toArray.size = n := by simpa using hn
  intro t ht
  rw [Sort.size_flatK, hd] at ht
  have hk : t / 2 < es.length := by omega
  obtain ⟨f0, f1⟩ := flat_at (List.getElem?_eq_getElem hk)
  have hT' := hT
  unfold WTab at hT'
  rw [hn] at hT'
  refine ⟨?_, by rw [Nat.zero_add]; exact hT.free hn.symm t⟩
  rw [Nat.zero_add, World.ownsRow.cellAt hT' t (by omega), Sort.get_flatK _ _ _ _ (by rw [hd]; exact ht), getElem!_pos es.toArray (t / 2) (by simpa using hk)]
  have hm : t % 2 = 0 ∨ t % 2 = 1 := by omega
  rcases hm with hm | hm
  · rw [show t / 2 * 2 = t by omega] at f0
    rw [hm, f0]; simp [encI2]
  · rw [show t / 2 * 2 + 1 = t by omega] at f1
    rw [hm, f1]; simp [encI2]
theorem wrds_held {W : World} {g : Nat} {l : List It} (h : Sort.HoldsK encI2 2 W g 0 l.toArray) : WRds W (some ⟨g, 0, none⟩) l := fun k t hk => by
  have hkl := (List.getElem?_eq_some_iff.1 hk).1
  have h1 := (Sort.HoldsK.cell h (i := k) (c := 0) (by simpa using hkl) (by omega)).1
  have h2 := (Sort.HoldsK.cell h (i := k) (c := 1) (by simpa using hkl) (by omega)).1
  have e : l.toArray[k]! = t := by
    rw [getElem!_pos _ k (by simpa using hkl)]
    have := List.getElem?_eq_some_iff.1 hk
    simpa using this.2
  rw [e] at h1 h2
  exact ⟨g, 0, rfl, World.block_lt_of_cell? _ _ h1, h1, h2⟩
theorem valid_perm {l m : List It} (h : l.Perm m) (hv : Valid l) : Valid m :=
  ⟨by rw [← h.length_eq]; exact hv.1, fun a ha => hv.2.1 a (h.mem_iff.2 ha), hv.2.2.perm h.symm⟩
theorem some_perm {key : UInt64} {l m : List It} (h : l.Perm m) (many : Int) : (someE key l many = 0 ↔ someE key m many = 0) ∧ someL key l many = someL key m many := by
  have hz : ∀ {l m : List It}, l.Perm m → someE key l many = 0 → someE key m many = 0 := fun h he => by
    obtain ⟨h1, h2, h3⟩ := someE_zero.1 he
    exact someE_zero.2 ⟨valid_perm h h1, h2, by rw [← ids_perm h1.2.2 h]; exact h3⟩
  refine ⟨⟨hz h, hz h.symm⟩, ?_⟩
  by_cases he : someE key l many = 0
  · unfold someL
    rw [if_pos he, if_pos (hz h he), ids_perm (someE_zero.1 he).1.2.2 h]
  · unfold someL
    rw [if_neg he, if_neg (fun e => he (hz h.symm e))]
/-- Who weighs nothing is never told. -/
theorem none_told {key : UInt64} {l : List It} {many : Int} (h : someE key l many = 0) {a : It} (ha : a ∈ l) (h0 : a.2 = 0) : a.1 ∉ someL key l many := by
  intro hm
  unfold someL at hm
  rw [if_pos h] at hm
  obtain ⟨b, hb, hp, e⟩ := ids_mem.1 (List.mem_of_mem_take hm)
  have := (someE_zero.1 h).1.2.2.inj hb ha e
  subst this
  omega
end Go.Proofs.Ytcbecpgllebepaa.Straw
