/-
  StrawMore, pure: who weighs more stands no farther behind, and all others stay in order.
-/
import Derived.Test.YtmljipopkgfblaaSwSpec
namespace Go.Proofs.Ytmljipopkgfblaa.Straw
set_option linter.unusedVariables false
set_option linter.unusedSimpArgs false

theorem split_at {α : Type} {l : List α} {k : Nat} {a : α} (h : l[k]? = some a) : l = l.take k ++ a :: l.drop (k + 1) := by
  obtain ⟨h1, rfl⟩ := List.getElem?_eq_some_iff.1 h
  rw [← List.drop_eq_getElem_cons h1, List.take_append_drop]
theorem set_split {α : Type} {l : List α} {k : Nat} {a : α} (h : l[k]? = some a) (a' : α) : l.set k a' = l.take k ++ a' :: l.drop (k + 1) := by
  have hk := (List.getElem?_eq_some_iff.1 h).1
  have hl : (l.take k).length = k := by rw [List.length_take]; omega
  conv => lhs; rw [split_at h]
  rw [List.set_append_right _ _ (by omega), hl, Nat.sub_self, List.set_cons_zero]
section
variable {key : UInt64} {l : List It} {k : Nat} {a a' : It}
theorem more_pos (h : l[k]? = some a) (h1 : 0 < a.2) (h2 : 0 < a'.2) : (pos (l.set k a')).length = (pos l).length := by
  rw [set_split h a']
  conv => rhs; rw [split_at h]
  unfold pos
  simp [List.filter_append, List.filter_cons, h1, h2]
theorem more_others (h : l[k]? = some a) (hid : a'.1 = a.1) : (l.set k a').filter (fun b => b.1 != a.1) = l.filter (fun b => b.1 != a.1) := by
  rw [set_split h a']
  conv => rhs; rw [split_at h]
  simp [List.filter_append, List.filter_cons, hid]
theorem more_once (h : l[k]? = some a) (hid : a'.1 = a.1) (ho : Once l) : Once (l.set k a') := by
  unfold Once at *
  have e : (l.set k a').map (·.1) = l.map (·.1) := by
    rw [set_split h a']
    conv => rhs; rw [split_at h]
    simp [hid]
  rw [e]; exact ho
theorem more_count (h : l[k]? = some a) (hid : a'.1 = a.1) (hw : wt a ≤ wt a') : (pos (l.set k a')).countP (fun b => longer key b a') ≤ (pos l).countP (fun b => longer key b a) := by
  have mono : ∀ (m : List It), (pos m).countP (fun b => longer key b a') ≤ (pos m).countP (fun b => longer key b a) := fun m =>
    List.countP_mono_left (fun b _ hb => longer_more hid hw hb)
  have e1 : pos (l.set k a') = pos (l.take k) ++ pos (a' :: l.drop (k + 1)) := by rw [set_split h a']; unfold pos; rw [List.filter_append]
  have e2 : pos l = pos (l.take k) ++ pos (a :: l.drop (k + 1)) := by conv => lhs; rw [split_at h]
                                                                      unfold pos; rw [List.filter_append]
  rw [e1, e2, List.countP_append, List.countP_append]
  have h3 : (pos (a' :: l.drop (k + 1))).countP (fun b => longer key b a') = (pos (l.drop (k + 1))).countP (fun b => longer key b a') := by
    unfold pos
    rw [List.filter_cons]
    split
    · rw [List.countP_cons, longer_irr]; simp
    · rfl
  have h4 : (pos (l.drop (k + 1))).countP (fun b => longer key b a) ≤ (pos (a :: l.drop (k + 1))).countP (fun b => longer key b a) := by
    unfold pos
    rw [List.filter_cons]
    split
    · rw [List.countP_cons]; omega
    · exact Nat.le_refl _
  rw [h3]
  exact Nat.add_le_add (mono _) (Nat.le_trans (mono _) h4)
theorem place_of (ho : Once l) (ha : a ∈ l) (hp : 0 < a.2) : ∃ x : Nat, (order key l)[x]? = some a ∧ (ids key l)[x]? = some a.1 ∧ (pos l).countP (fun b => longer key b a) = x := by
  have hm : a ∈ order key l := (srt_perm key _).mem_iff.2 (List.mem_filter.2 ⟨ha, by simpa using hp⟩)
  obtain ⟨x, hx⟩ := List.mem_iff_getElem?.1 hm
  refine ⟨x, hx, by unfold ids; rw [List.getElem?_map, hx]; rfl, ?_⟩
  have := place_count (srt_sorted key (pos l)) ((pos_once ho).perm (srt_perm key _)) hx
  rw [(srt_perm key (pos l)).countP_eq] at this
  exact this
/-- A list without its place x. -/
theorem out_filter {l : List Int} {x : Nat} {v : Int} (hn : l.Nodup) (hx : l[x]? = some v) : l.take x ++ l.drop (x + 1) = l.filter (fun y => y != v) := by
  have e := split_at hx
  have hn' := hn
  rw [e] at hn'
  obtain ⟨n1, n2, n3⟩ := List.nodup_append.1 hn'
  obtain ⟨n4, n5⟩ := List.nodup_cons.1 n2
  conv => rhs; rw [e]
  rw [List.filter_append, List.filter_cons]
  have f1 : (l.take x).filter (fun y => y != v) = l.take x := List.filter_eq_self.2 (fun y hy => by have := n3 y hy v (by simp); simpa using this)
  have f2 : (l.drop (x + 1)).filter (fun y => y != v) = l.drop (x + 1) := List.filter_eq_self.2 (fun y hy => by simp; rintro rfl; exact n4 hy)
  rw [f1, f2]; simp
theorem more_main (ho : Once l) (h : l[k]? = some a) (h1 : 0 < a.2) (hid : a'.1 = a.1) (h2 : a.2 ≤ a'.2) :
    ∃ x y : Nat, (ids key l)[x]? = some a.1 ∧ (ids key (l.set k a'))[y]? = some a.1 ∧ y ≤ x ∧ (ids key l).take x ++ (ids key l).drop (x + 1) = (ids key (l.set k a')).take y ++ (ids key (l.set k a')).drop (y + 1) := by
  have ho' := more_once h hid ho
  have ha' : a' ∈ l.set k a' := by rw [set_split h a']; simp
  obtain ⟨x, x1, x2, x3⟩ := place_of (key := key) ho (List.mem_of_getElem? h) h1
  obtain ⟨y, y1, y2, y3⟩ := place_of (key := key) ho' ha' (show 0 < a'.2 by omega)
  rw [hid] at y2
  refine ⟨x, y, x2, y2, ?_, ?_⟩
  · rw [← x3, ← y3]
    exact more_count h hid (by rw [wt_of h1, wt_of (by omega)]; omega)
  · rw [out_filter (ids_nodup ho) x2, out_filter (ids_nodup ho') y2, ← ids_without ho, ← ids_without ho', more_others h hid]
end
end Go.Proofs.Ytmljipopkgfblaa.Straw
