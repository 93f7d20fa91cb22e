/-
  Package locks, pure: what the document's own answer keeps: rows with flags.
-/
import Derived.Test.YtdkgclgccicbeaaLkPure2
namespace Go.Proofs.Ytdkgclgccicbeaa.Lk
set_option linter.unusedVariables false
set_option linter.unusedSimpArgs false

abbrev SW := LO × Bool
def rowF (l : List LO) : List SW := l.mapIdx (fun k o => (o, has l k))
theorem rowF_len (l : List LO) : (rowF l).length = l.length := by unfold rowF; simp
theorem rowF_nil : rowF [] = [] := rfl
theorem rowF_at {l : List LO} {k : Nat} {o : LO} (h : l[k]? = some o) : (rowF l)[k]? = some (o, has l k) := by
  unfold rowF; rw [List.getElem?_mapIdx, h]; rfl
theorem rowF_from {l : List LO} {k : Nat} {x : SW} (h : (rowF l)[k]? = some x) : l[k]? = some x.1 ∧ x.2 = has l k := by
  unfold rowF at h
  rw [List.getElem?_mapIdx] at h
  obtain ⟨o, h1, h2⟩ := Option.map_eq_some_iff.1 h
  rw [← h2]; exact ⟨h1, rfl⟩
theorem rowF_fst (l : List LO) : (rowF l).map (·.1) = l := by
  apply List.ext_getElem?
  intro k
  rw [List.getElem?_map]
  cases h : l[k]? with
  | none =>
    have : l.length ≤ k := List.getElem?_eq_none_iff.1 h
    rw [List.getElem?_eq_none (by rw [rowF_len]; exact this)]; rfl
  | some o => rw [rowF_at h]; rfl
/-- The operations of a row whose first k flags are right. -/
def Upto (l : List LO) (k : Nat) (r : List SW) : Prop := r.map (·.1) = l ∧ ∀ j x, j < k → r[j]? = some x → x.2 = has l j
theorem Upto.zero {r : List SW} {l : List LO} (h : r.map (·.1) = l) : Upto l 0 r := ⟨h, fun j x hj => by omega⟩
theorem Upto.all {l : List LO} {r : List SW} (h : Upto l l.length r) : r = rowF l := by
  have hlen : r.length = l.length := by rw [← h.1, List.length_map]
  apply List.ext_getElem?
  intro k
  cases hk : r[k]? with
  | none =>
    have : r.length ≤ k := List.getElem?_eq_none_iff.1 hk
    rw [List.getElem?_eq_none (by rw [rowF_len]; omega)]
  | some x =>
    have hkl : k < r.length := (List.getElem?_eq_some_iff.1 hk).1
    have e : l[k]? = some x.1 := by rw [← h.1, List.getElem?_map, hk]; rfl
    rw [rowF_at e, ← h.2 k x (by omega) hk]
theorem Upto.put {l : List LO} {k : Nat} {r : List SW} {x : SW} (h : Upto l k r) (hx : r[k]? = some x) : Upto l (k + 1) (r.set k (x.1, has l k)) := by
  have hk : k < r.length := (List.getElem?_eq_some_iff.1 hx).1
  refine ⟨?_, fun j y hj hy => ?_⟩
  · rw [List.map_set, ← h.1]
    apply List.ext_getElem?
    intro i
    by_cases e : k = i
    · subst e
      rw [List.getElem?_set_self (by simpa using hk), List.getElem?_map, hx]; rfl
    · rw [List.getElem?_set_ne e]
  · by_cases e : k = j
    · subst e
      rw [List.getElem?_set_self hk] at hy
      cases hy; rfl
    · rw [List.getElem?_set_ne e] at hy
      exact h.2 j y (by omega) hy
theorem Upto.op {l : List LO} {k j : Nat} {r : List SW} {x : SW} (h : Upto l k r) (hx : r[j]? = some x) : l[j]? = some x.1 := by rw [← h.1, List.getElem?_map, hx]; rfl
/-- Where a node stands, as it is looked for: the last place, or -1. -/
def atR (l : List LO) (nd : Int) : Nat → Int
  | 0 => -1
  | j + 1 => match l[j]? with
    | some o => if o.2.1 = nd then (j : Int) else atR l nd j
    | none => atR l nd j
theorem atR_suc {l : List LO} {nd : Int} {j : Nat} {o : LO} (h : l[j]? = some o) : atR l nd (j + 1) = if o.2.1 = nd then (j : Int) else atR l nd j := by
  show (match l[j]? with | some o => _ | none => _) = _
  rw [h]
theorem atR_spec (l : List LO) (nd : Int) : ∀ j, j ≤ l.length → (atR l nd j = -1 ∧ ∀ i o, i < j → l[i]? = some o → o.2.1 ≠ nd) ∨ ∃ i o, i < j ∧ atR l nd j = (i : Int) ∧ l[i]? = some o ∧ o.2.1 = nd
  | 0, _ => .inl ⟨rfl, fun i o h => by omega⟩
  | j + 1, hj => by
    obtain ⟨o, ho⟩ : ∃ o, l[j]? = some o := ⟨_, List.getElem?_eq_getElem (by omega)⟩
    rw [atR_suc ho]
    by_cases h : o.2.1 = nd
    · rw [if_pos h]; exact .inr ⟨j, o, by omega, rfl, ho, h⟩
    · rw [if_neg h]
      rcases atR_spec l nd j (by omega) with ⟨h1, h2⟩ | ⟨i, o', h1, h2, h3, h4⟩
      · refine .inl ⟨h1, fun i o' hi ho' => ?_⟩
        by_cases e : i = j
        · subst e; rw [ho] at ho'; cases ho'; exact h
        · exact h2 i o' (by omega) ho'
      · exact .inr ⟨i, o', by omega, h2, h3, h4⟩
theorem atR_all (l : List LO) (nd : Int) : (atR l nd l.length = -1 ∧ nd ∉ nodes l) ∨ ∃ i o, i < l.length ∧ atR l nd l.length = (i : Int) ∧ l[i]? = some o ∧ o.2.1 = nd ∧ nd ∈ nodes l := by
  rcases atR_spec l nd l.length (Nat.le_refl _) with ⟨h1, h2⟩ | ⟨i, o, h1, h2, h3, h4⟩
  · refine .inl ⟨h1, fun hm => ?_⟩
    obtain ⟨o, ho, e⟩ := mem_nodes.1 hm
    obtain ⟨i, hi⟩ := List.mem_iff_getElem?.1 ho
    exact h2 i o (List.getElem?_eq_some_iff.1 hi).1 hi e
  · exact .inr ⟨i, o, h1, h2, h3, h4, mem_nodes.2 ⟨o, List.mem_of_getElem? h3, h4⟩⟩
/-- Taken out at its place. -/
theorem without_at : ∀ {l : List LO} {i : Nat} {o : LO}, (nodes l).Nodup → l[i]? = some o → without l o.2.1 = l.take i ++ l.drop (i + 1)
  | [], i, o, _, h => by simp at h
  | x :: r, 0, o, hn, h => by
    simp at h
    subst h
    have := (List.nodup_cons.1 (show (x.2.1 :: nodes r).Nodup from hn)).1
    unfold without
    rw [List.filter_cons, show (!(x.2.1 == x.2.1)) = false by simp]
    simp only [Bool.false_eq_true, if_false, List.take_zero, List.nil_append, List.drop_succ_cons, List.drop_zero]
    refine List.filter_eq_self.2 fun y hy => ?_
    have hne : y.2.1 ≠ x.2.1 := fun e => this (mem_nodes.2 ⟨y, hy, e⟩)
    simpa using hne
  | x :: r, i + 1, o, hn, h => by
    have h' : r[i]? = some o := by simpa using h
    obtain ⟨h1, h2⟩ := List.nodup_cons.1 (show (x.2.1 :: nodes r).Nodup from hn)
    have ih := without_at h2 h'
    unfold without at ih ⊢
    have hne : x.2.1 ≠ o.2.1 := fun e => h1 (mem_nodes.2 ⟨o, List.mem_of_getElem? h', e.symm⟩)
    rw [List.filter_cons, show (!(x.2.1 == o.2.1)) = true by simpa using hne]
    simp only [if_true, List.take_succ_cons, List.drop_succ_cons, List.cons_append]
    rw [ih]
/-! ### What an operation does, case by case -/
section
variable {l : List LO} {kd nd ky : Int}
theorem e_kind (h : kd < 1 ∨ 3 < kd) : errL l (kd, nd, ky) = 5 := by unfold errL; rw [if_pos h]
theorem e_node (h : ¬ (kd < 1 ∨ 3 < kd)) (h2 : nd < 0 ∨ 15 < nd) : errL l (kd, nd, ky) = 2 := by unfold errL; rw [if_neg h, if_pos h2]
theorem e_none (h : ¬ (kd < 1 ∨ 3 < kd)) (h2 : ¬ (nd < 0 ∨ 15 < nd)) (h3 : kd = 3) (h4 : nd ∉ nodes l) : errL l (kd, nd, ky) = 3 := by unfold errL; rw [if_neg h, if_neg h2, if_pos ⟨h3, h4⟩]
theorem e_free (h : ¬ (kd < 1 ∨ 3 < kd)) (h2 : ¬ (nd < 0 ∨ 15 < nd)) (h3 : kd = 3) (h4 : nd ∈ nodes l) : errL l (kd, nd, ky) = 0 := by unfold errL; rw [if_neg h, if_neg h2, if_neg (fun e => e.2 h4), if_pos h3]
theorem e_form (h : ¬ (kd < 1 ∨ 3 < kd)) (h2 : ¬ (nd < 0 ∨ 15 < nd)) (h3 : kd ≠ 3) (h4 : nd ∈ nodes l) : errL l (kd, nd, ky) = 1 := by unfold errL; rw [if_neg h, if_neg h2, if_neg (fun e => h3 e.1), if_neg h3, if_pos h4]
theorem e_ask (h : ¬ (kd < 1 ∨ 3 < kd)) (h2 : ¬ (nd < 0 ∨ 15 < nd)) (h3 : kd ≠ 3) (h4 : nd ∉ nodes l) : errL l (kd, nd, ky) = if has (l ++ [(kd, nd, ky)]) l.length = true then 0 else 6 := by
  unfold errL; rw [if_neg h, if_neg h2, if_neg (fun e => h3 e.1), if_neg h3, if_neg h4]
  have hle := held_le (l ++ [(kd, nd, ky)])
  rw [List.length_append, List.length_singleton] at hle
  unfold has
  simp only [decide_eq_true_eq]
  by_cases e : held (l ++ [(kd, nd, ky)]) = l.length + 1
  · rw [if_pos e, if_pos (by omega)]
  · rw [if_neg e, if_neg (by omega)]
theorem s_free (h : ¬ (kd < 1 ∨ 3 < kd)) (h2 : ¬ (nd < 0 ∨ 15 < nd)) (h3 : kd = 3) (h4 : nd ∈ nodes l) : stepL l (kd, nd, ky) = without l nd := by unfold stepL; rw [if_pos (.inl (e_free h h2 h3 h4)), if_pos h3]
theorem s_ask (h : ¬ (kd < 1 ∨ 3 < kd)) (h2 : ¬ (nd < 0 ∨ 15 < nd)) (h3 : kd ≠ 3) (h4 : nd ∉ nodes l) : stepL l (kd, nd, ky) = l ++ [(kd, nd, ky)] := by
  have e := e_ask (l := l) (ky := ky) h h2 h3 h4
  unfold stepL
  rw [if_pos (by rw [e]; split <;> simp), if_neg h3]
theorem s_same {x : Int} (h : errL l (kd, nd, ky) = x) (h0 : x ≠ 0) (h6 : x ≠ 6) : stepL l (kd, nd, ky) = l := by unfold stepL; rw [h, if_neg (by simp [h0, h6])]
end
theorem nodup_len {α : Type} [DecidableEq α] : ∀ {l k : List α}, l.Nodup → (∀ t ∈ l, t ∈ k) → l.length ≤ k.length
  | [], _, _, _ => Nat.zero_le _
  | x :: l, k, h, hs => by
    rw [List.nodup_cons] at h
    have hx := hs x (by simp)
    have ih := nodup_len (l := l) (k := k.erase x) h.2 (fun t ht => (List.mem_erase_of_ne (fun e => h.1 (by rw [← e]; exact ht))).2 (hs t (List.mem_cons_of_mem _ ht)))
    rw [List.length_erase_of_mem hx] at ih
    have := List.length_pos_of_mem hx
    rw [List.length_cons]
    omega
theorem row_len {k : Int} {l : List LO} (h : Ok k l) : l.length ≤ 16 := by
  have h1 : (l.map (fun o => o.2.1.toNat)).Nodup := by
    have := h.nd
    unfold nodes at this
    rw [show l.map (fun o => o.2.1.toNat) = (l.map (·.2.1)).map Int.toNat by rw [List.map_map]; rfl]
    refine List.pairwise_map.2 (List.Pairwise.imp_of_mem (fun {x y} hx hy hne => ?_) this)
    obtain ⟨a, ha, rfl⟩ := List.mem_map.1 hx
    obtain ⟨b, hb, rfl⟩ := List.mem_map.1 hy
    have := h.node a ha
    have := h.node b hb
    omega
  have h2 : ∀ x ∈ l.map (fun o => o.2.1.toNat), x < 16 := fun x hx => by
    obtain ⟨a, ha, rfl⟩ := List.mem_map.1 hx
    have := h.node a ha
    omega
  have h3 : (l.map (fun o => o.2.1.toNat)).length ≤ (List.range 16).length := nodup_len h1 (fun x hx => List.mem_range.2 (h2 x hx))
  simpa using h3
end Go.Proofs.Ytdkgclgccicbeaa.Lk
