/-
  Hosts and their devices, pure: a host comes; a device is replaced by one of the same weight; how many copies of a key move.
-/
import Derived.Test.YtcbecpgllebepaaCrPure
namespace Go.Proofs.Ytcbecpgllebepaa.Crush
set_option linter.unusedVariables false
set_option linter.unusedSimpArgs false
open Straw

/-- How many of b are not in a. -/
def newIn (a b : List It) : Nat := b.countP (fun s => decide (s ∉ a))
theorem newIn_snoc (a b : List It) (s : It) : newIn a (b ++ [s]) = newIn a b + if s ∈ a then 0 else 1 := by
  unfold newIn
  rw [List.countP_append, List.countP_singleton]
  by_cases h : s ∈ a <;> simp [h]
theorem newIn_self (a : List It) : newIn a a = 0 := by
  unfold newIn; rw [List.countP_eq_zero]; intro s hs; simpa using hs
theorem newIn_le (a b : List It) : newIn a b ≤ b.length := List.countP_le_length
/-- All that are new have the one id, and no id stands twice: one at most. -/
theorem newIn_one {a b : List It} {id : Int} (ho : Once b) (h : ∀ s ∈ b, s ∉ a → s.1 = id) : newIn a b ≤ 1 := by
  induction b with
  | nil => simp [newIn]
  | cons s b ih =>
    obtain ⟨h1, h2⟩ := List.nodup_cons.1 (show (s.1 :: b.map (·.1)).Nodup from ho)
    unfold newIn at *
    rw [List.countP_cons]
    by_cases hs : s ∈ a
    · have := ih h2 (fun t ht => h t (by simp [ht]))
      simp [hs]; simpa using this
    · have e := h s (by simp) hs
      have hz : b.countP (fun s => decide (s ∉ a)) = 0 := by
        rw [List.countP_eq_zero]
        intro t ht
        rw [decide_eq_true_iff]
        intro hta
        have := h t (by simp [ht]) hta
        exact h1 (List.mem_map.2 ⟨t, ht, by rw [this, e]⟩)
      rw [hz]; simp [hs]
section
variable {key : UInt64} {hs : List Ht} {h : Ht}
theorem wts_snoc : wts (hs ++ [h]) = wts hs ++ [(h.1, hw h.2)] := by simp [wts]
theorem new_out (hg : Good (hs ++ [h])) : hs.filter (fun x => x.1 != h.1) = hs := by
  have ho := good_once hg
  rw [List.map_append, List.nodup_append] at ho
  refine List.filter_eq_self.2 fun y hy => ?_
  have := ho.2.2 y.1 (List.mem_map.2 ⟨y, hy, rfl⟩) h.1 (by simp)
  simpa using this
theorem new_filter (hg : Good (hs ++ [h])) : (hs ++ [h]).filter (fun x => x.1 != h.1) = hs := by
  rw [List.filter_append, new_out hg]; simp
theorem take_sub {l : List Int} (p : Int → Bool) {n : Nat} {x : Int} (hx : x ∈ l.take n) (hp : p x = true) : x ∈ (l.filter p).take n := by
  have h1 : x ∈ (l.take n).filter p := List.mem_filter.2 ⟨hx, hp⟩
  rw [← take_filter p n] at h1
  exact (List.take_subset_take_left _ (Nat.le_trans (List.length_filter_le _ _) (List.length_take_le _ _))) h1
/-- A copy that is new lies on the new host. -/
theorem new_host {many : Nat} (ha : plE key hs many = 0) (hb : plE key (hs ++ [h]) many = 0) {s : It} (hs' : s ∈ plL key (hs ++ [h]) many) (hn : s ∉ plL key hs many) : s.1 = h.1 := by
  have hg := (plE_zero.1 hb).1
  rw [plL_ok hb] at hs'
  obtain ⟨i, hi, rfl⟩ := List.mem_map.1 hs'
  rcases Decidable.em (i = h.1) with e | e
  · exact e
  · exfalso
    apply hn
    rw [plL_ok ha]
    refine List.mem_map.2 ⟨i, ?_, ?_⟩
    · have h1 := take_sub (fun x => x != h.1) hi (by simpa using e)
      rw [← ids_without hg.2.2.2, ← wts_filter, new_filter hg] at h1
      exact h1
    · have := spot_filter (key := key) (hs := hs ++ [h]) e
      rw [new_filter hg] at this
      exact this
theorem new_moved {many : Nat} (ha : plE key hs many = 0) (hb : plE key (hs ++ [h]) many = 0) : newIn (plL key hs many) (plL key (hs ++ [h]) many) ≤ 1 :=
  newIn_one (plL_once hb) (fun s h1 h2 => new_host ha hb h1 h2)

/-! ### Another device of the same weight -/
theorem sum_set {d : List It} {j : Nat} {a a' : It} (hj : d[j]? = some a) (hw' : a'.2 = a.2) : sumW (d.set j a') = sumW d := by
  have e : (d.set j a').map (·.2) = d.map (·.2) := by
    rw [List.map_set, hw']
    apply List.ext_getElem?
    intro i
    rw [List.getElem?_set]
    split
    · rename_i e
      subst e
      have := (List.getElem?_eq_some_iff.1 hj).1
      rw [if_pos (by simpa using this), List.getElem?_map, hj]; rfl
    · rfl
  unfold sumW; rw [e]
theorem wts_set {k : Nat} {x x' : Ht} (hk : hs[k]? = some x) (h1 : x'.1 = x.1) (h2 : hw x'.2 = hw x.2) : wts (hs.set k x') = wts hs := by
  unfold wts
  rw [List.map_set, h1, h2]
  apply List.ext_getElem?
  intro i
  rw [List.getElem?_set]
  split
  · rename_i e
    subst e
    have := (List.getElem?_eq_some_iff.1 hk).1
    rw [if_pos (by simpa using this), List.getElem?_map, hk]; rfl
  · rfl
theorem set_other {α : Type} {l : List α} {k : Nat} {x x' : α} (hk : l[k]? = some x) (p : α → Bool) (h1 : p x = false) (h2 : p x' = false) : (l.set k x').filter p = l.filter p := by
  obtain ⟨h3, e⟩ := List.getElem?_eq_some_iff.1 hk
  have es : l = l.take k ++ x :: l.drop (k + 1) := by rw [← e, ← List.drop_eq_getElem_cons h3, List.take_append_drop]
  have es' : l.set k x' = l.take k ++ x' :: l.drop (k + 1) := by
    have hl : (l.take k).length = k := by rw [List.length_take]; omega
    conv => lhs; rw [es]
    rw [List.set_append_right _ _ (by omega), hl, Nat.sub_self, List.set_cons_zero]
  rw [es']
  conv => rhs; rw [es]
  rw [List.filter_append, List.filter_append, List.filter_cons, List.filter_cons, h1, h2]
  rfl
theorem spot_other {k : Nat} {x x' : Ht} (hk : hs[k]? = some x) (h1 : x'.1 = x.1) {i : Int} (hi : i ≠ x.1) : spot key (hs.set k x') i = spot key hs i := by
  rw [← spot_filter (key := key) (hs := hs.set k x') hi, ← spot_filter (key := key) (hs := hs) hi]
  rw [set_other hk (fun h => h.1 != x.1) (by simp) (by simp [h1])]
/-- Two devices that are neither the old one nor the new one are one. -/
theorem dev_set {id : Int} {d : List It} {j : Nat} {a a' : It} (hj : d[j]? = some a) (hw' : a'.2 = a.2) (hv : Valid d) (hv' : Valid (d.set j a')) (h1 : dev key id d ≠ a.1) (h2 : dev key id (d.set j a') ≠ a'.1)
    (h3 : ids (sub key id) d ≠ []) (h4 : ids (sub key id) (d.set j a') ≠ []) : dev key id d = dev key id (d.set j a') := by
  have f1 := ids_without (key := sub key id) hv.2.2 a.1
  have f2 := ids_without (key := sub key id) hv'.2.2 a'.1
  have m1 : d.filter (fun b => b.1 != a.1) = (d.set j a').filter (fun b => b.1 != a'.1) := by
    obtain ⟨h5, e⟩ := List.getElem?_eq_some_iff.1 hj
    have es : d = d.take j ++ a :: d.drop (j + 1) := by rw [← e, ← List.drop_eq_getElem_cons h5, List.take_append_drop]
    have es' : d.set j a' = d.take j ++ a' :: d.drop (j + 1) := by
      have hl : (d.take j).length = j := by rw [List.length_take]; omega
      conv => lhs; rw [es]
      rw [List.set_append_right _ _ (by omega), hl, Nat.sub_self, List.set_cons_zero]
    have o1 := hv.2.2
    have o2 := hv'.2.2
    rw [es] at o1
    rw [es'] at o2
    unfold Once at o1 o2
    rw [List.map_append, List.map_cons] at o1 o2
    obtain ⟨_, n2, n3⟩ := List.nodup_append.1 o1
    obtain ⟨n4, _⟩ := List.nodup_cons.1 n2
    obtain ⟨_, q2, q3⟩ := List.nodup_append.1 o2
    obtain ⟨q4, _⟩ := List.nodup_cons.1 q2
    have g : ∀ (y : It), y ∈ d.take j ∨ y ∈ d.drop (j + 1) → (y.1 != a.1) = true ∧ (y.1 != a'.1) = true := fun y hy => by
      simp only [bne_iff_ne, ne_eq]
      rcases hy with hy | hy
      · exact ⟨n3 y.1 (List.mem_map.2 ⟨y, hy, rfl⟩) a.1 (by simp), q3 y.1 (List.mem_map.2 ⟨y, hy, rfl⟩) a'.1 (by simp)⟩
      · exact ⟨fun e => n4 (List.mem_map.2 ⟨y, hy, e⟩), fun e => q4 (List.mem_map.2 ⟨y, hy, e⟩)⟩
    rw [es']
    conv => lhs; rw [es]
    rw [List.filter_append, List.filter_append, List.filter_cons, List.filter_cons]
    rw [List.filter_eq_self.2 (fun y hy => (g y (.inl hy)).1), List.filter_eq_self.2 (fun y hy => (g y (.inl hy)).2), List.filter_eq_self.2 (fun y hy => (g y (.inr hy)).1), List.filter_eq_self.2 (fun y hy => (g y (.inr hy)).2)]
    simp
  rw [m1, f2] at f1
  unfold dev at *
  cases e1 : ids (sub key id) d with
  | nil => exact absurd e1 h3
  | cons y ys =>
    cases e2 : ids (sub key id) (d.set j a') with
    | nil => exact absurd e2 h4
    | cons z zs =>
      rw [e1] at h1 f1
      rw [e2] at h2 f1
      simp only [List.head?_cons, Option.getD_some] at h1 h2 ⊢
      rw [List.filter_cons, List.filter_cons, if_pos (by simpa using h2), if_pos (by simpa using h1)] at f1
      injection f1 with f1 _
      exact f1.symm
/-- A device replaced: no copy goes to another host, and on the other hosts nothing changes. -/
theorem inner {k j many : Nat} {x : Ht} {a a' : It} (hk : hs[k]? = some x) (hj : x.2[j]? = some a) (hw' : a'.2 = a.2) (ha : plE key hs many = 0) (hb : plE key (hs.set k (x.1, x.2.set j a')) many = 0) {i : Nat} {s t : It}
    (hs1 : (plL key hs many)[i]? = some s) (ht : (plL key (hs.set k (x.1, x.2.set j a')) many)[i]? = some t) :
    s.1 = t.1 ∧ (s.1 ≠ x.1 → s = t) ∧ (s.1 = x.1 → s.2 ≠ t.2 → s.2 ≠ a.1 → t.2 = a'.1) := by
  have hW : wts (hs.set k (x.1, x.2.set j a')) = wts hs := wts_set hk rfl (by show hw (x.2.set j a') = hw x.2; unfold hw; rw [sum_set hj hw'])
  have hga := (plE_zero.1 ha).1
  have hgb := (plE_zero.1 hb).1
  rw [plL_ok ha, List.getElem?_map] at hs1
  rw [plL_ok hb, List.getElem?_map, hW] at ht
  cases e : ((ids key (wts hs)).take many)[i]? with
  | none => rw [e] at hs1; cases hs1
  | some v =>
    rw [e] at hs1 ht
    simp only [Option.map_some, Option.some.injEq] at hs1 ht
    subst hs1 ht
    have hv : (spot key hs v).1 = v := rfl
    have hv' : (spot key (hs.set k (x.1, x.2.set j a')) v).1 = v := rfl
    refine ⟨rfl, fun hne => (spot_other (key := key) (x' := (x.1, x.2.set j a')) hk rfl (show v ≠ x.1 from hne)).symm, fun heq hd1 hd2 => ?_⟩
    have heq : v = x.1 := heq
    subst heq
    have hxm := List.mem_of_getElem? hk
    have hk2 := (List.getElem?_eq_some_iff.1 hk).1
    have hym : (x.1, x.2.set j a') ∈ hs.set k (x.1, x.2.set j a') := List.mem_of_getElem? (i := k) (by rw [List.getElem?_set, if_pos rfl, if_pos hk2])
    have e1 := spot_host (key := key) hga hxm
    have e2 := spot_host (key := key) hgb hym
    simp only at e2
    rw [e1] at hd1 hd2
    rw [e2] at hd1 ⊢
    simp only at hd1 hd2 ⊢
    have hi := List.mem_of_mem_take (List.mem_of_getElem? e)
    obtain ⟨z, hz, hz1, hz2⟩ := ids_host hga hi
    have hzx : z = x := by
      have h5 := find_host hga hz
      rw [hz1, find_host hga hxm] at h5
      injection h5 with h5; exact h5.symm
    subst hzx
    obtain ⟨r1, hr1⟩ := dev_mem (key := key) hga hz hz2
    obtain ⟨r2, hr2⟩ := dev_mem (key := key) hgb hym (by show 0 < hw (z.2.set j a'); unfold hw at hz2 ⊢; rw [sum_set hj hw']; exact hz2)
    rcases Decidable.em (dev key z.1 (z.2.set j a') = a'.1) with h6 | h6
    · exact h6
    · exact absurd (dev_set hj hw' (hga.1 z hz) (hgb.1 _ hym) hd2 h6 (by rw [hr1]; simp) (by
        have : ids (sub key z.1) (z.2.set j a') = dev key z.1 (z.2.set j a') :: r2 := hr2
        rw [this]; simp)) hd1
end
end Go.Proofs.Ytcbecpgllebepaa.Crush
