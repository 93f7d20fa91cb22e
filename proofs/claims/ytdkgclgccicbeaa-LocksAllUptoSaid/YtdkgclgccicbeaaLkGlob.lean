/-
  Package locks, pure: who gives up what it has takes one entry away each time, so that all that is ever given up is at most all that was asked.
-/
import Derived.Test.YtdkgclgccicbeaaLkPure2
namespace Go.Proofs.Ytdkgclgccicbeaa.Lk
set_option linter.unusedVariables false
set_option linter.unusedSimpArgs false

def globE (l g : List LO) (o : LO) : List LO :=
  if errL l o = 0 ∨ errL l o = 6 then (if o.1 = 3 then g.filter (fun x => !(x.2.1 == o.2.1 && x.2.2 == o.2.2)) else g ++ [o]) else g
/-- All entries of all keys. -/
def glob (ops : List LO) : List LO := (ops.foldl (fun (p : List LO × List LO) o => (p.1 ++ [o], globE (st p.1 o.2.2) p.2 o)) ([], [])).2
theorem glob_fst (ops : List LO) : ∀ (a b : List LO), (ops.foldl (fun (p : List LO × List LO) o => (p.1 ++ [o], globE (st p.1 o.2.2) p.2 o)) (a, b)).1 = a ++ ops := by
  induction ops with
  | nil => intro a b; simp
  | cons o r ih => intro a b; rw [List.foldl_cons, ih]; simp
theorem glob_snoc (ops : List LO) (o : LO) : glob (ops ++ [o]) = globE (st ops o.2.2) (glob ops) o := by
  unfold glob
  rw [List.foldl_append]
  simp only [List.foldl_cons, List.foldl_nil, glob_fst, List.nil_append]
theorem glob_st (k : Int) : ∀ ops, (glob ops).filter (fun x => x.2.2 == k) = st ops k := snoc_ind rfl (fun l o h => by
  rw [glob_snoc, st_snoc]
  unfold globE
  by_cases e : o.2.2 = k
  · rw [if_pos e]
    subst e
    unfold stepL
    by_cases he : errL (st l o.2.2) o = 0 ∨ errL (st l o.2.2) o = 6
    · rw [if_pos he, if_pos he]
      by_cases h3 : o.1 = 3
      · rw [if_pos h3, if_pos h3, ← h]
        unfold without
        rw [List.filter_filter, List.filter_filter]
        refine List.filter_congr fun x _ => ?_
        cases h1 : (x.2.2 == o.2.2) <;> simp [h1]
      · rw [if_neg h3, if_neg h3, List.filter_append, h]
        simp
    · rw [if_neg he, if_neg he, h]
  · rw [if_neg e]
    by_cases he : errL (st l o.2.2) o = 0 ∨ errL (st l o.2.2) o = 6
    · rw [if_pos he]
      by_cases h3 : o.1 = 3
      · rw [if_pos h3, ← h, List.filter_filter]
        refine List.filter_congr fun x _ => ?_
        by_cases hx : x.2.2 = k
        · have : ¬ x.2.2 = o.2.2 := fun e' => e (e'.symm.trans hx)
          simp [hx]
          exact .inr (fun e' => e e'.symm)
        · simp [hx]
      · rw [if_neg h3, List.filter_append, h]
        simp [e]
    · rw [if_neg he, h])
theorem glob_len : ∀ ops, (glob ops).length ≤ ops.length := snoc_ind (by simp [glob]) (fun l o h => by
  rw [glob_snoc, List.length_append]
  unfold globE
  split
  · split
    · exact Nat.le_trans (List.length_filter_le _ _) (by omega)
    · simp; omega
  · omega)
theorem glob_free {ops : List LO} {n k : Int} (h : n ∈ nodes (st ops k)) : (glob (ops ++ [(3, n, k)])).length + 1 ≤ (glob ops).length := by
  obtain ⟨x, hx, hn⟩ := mem_nodes.1 h
  have hr := (st_ok k ops).node x hx
  have hg := hx
  rw [← glob_st, List.mem_filter] at hg
  rw [glob_snoc]
  unfold globE
  have he : errL (st ops k) (3, n, k) = 0 := by
    unfold errL
    rw [if_neg (by simp), if_neg (by simp only; omega), if_neg (by simp [h]), if_pos rfl]
  simp only
  rw [he, if_pos (.inl rfl), if_pos trivial]
  have hlt : ((glob ops).filter (fun x => !(x.2.1 == n && x.2.2 == k))).length < (glob ops).length := by
    refine List.length_filter_lt_length_iff_exists.2 ⟨x, hg.1, ?_⟩
    have := hg.2
    simp_all
  omega
theorem free_nodes {k : Int} : ∀ (j : Nat) (l : List LO), Ok k l → j ≤ l.length → ∀ i, i ≤ j → (((l.take j).map (fun o => ((3 : Int), o.2.1, k))).take i).foldl stepL l = l.drop i := fun j l hl hj i hi => by
  rw [← List.map_take, List.take_take, Nat.min_eq_left hi]
  exact free_row i l hl (by omega)
/-- Each of the keys' holders in turn. -/
theorem frees_count (ops : List LO) : ∀ i, i ≤ (frees (locks ops)).length → (ops ++ (frees (locks ops)).take i).length + (glob (ops ++ (frees (locks ops)).take i)).length ≤ ops.length + (glob ops).length
  | 0, _ => by simp
  | i + 1, hi => by
    have ih := frees_count ops i (by omega)
    obtain ⟨f, hf⟩ : ∃ f, (frees (locks ops))[i]? = some f := ⟨_, List.getElem?_eq_getElem (by omega)⟩
    have e1 : (frees (locks ops)).take (i + 1) = (frees (locks ops)).take i ++ [f] := by rw [List.take_add_one, hf]; rfl
    rw [e1, ← List.append_assoc]
    have hk : f.1 = 3 ∧ f.2.1 ∈ nodes (st (ops ++ (frees (locks ops)).take i) f.2.2) := by
      have hfk := frees_key _ (rise_locks ops) f.2.2
      have hpre : ((frees (locks ops)).take i).filter (fun o => o.2.2 == f.2.2) ++ [f] <+: (frees (locks ops)).filter (fun o => o.2.2 == f.2.2) := by
        have h1 : ((frees (locks ops)).take (i + 1)) <+: frees (locks ops) := List.take_prefix _ _
        have h2 := h1.filter (fun o => o.2.2 == f.2.2)
        rw [e1, List.filter_append, show [f].filter (fun o => o.2.2 == f.2.2) = [f] by simp] at h2
        exact h2
      rw [hfk, locks_find] at hpre
      by_cases hs : st ops f.2.2 = []
      · rw [if_pos hs] at hpre
        have := hpre.length_le
        simp at this
      · rw [if_neg hs] at hpre
        simp only at hpre
        unfold freesOf lockOf at hpre
        simp only [List.map_map] at hpre
        obtain ⟨j, hj⟩ : ∃ j, (((frees (locks ops)).take i).filter (fun o => o.2.2 == f.2.2)).length = j := ⟨_, rfl⟩
        have hjl := hpre.length_le
        simp only [List.length_append, List.length_singleton, List.length_map, List.length_take, hj] at hjl
        have hq := List.prefix_iff_eq_take.1 ((List.prefix_append _ [f]).trans hpre)
        have hp := List.prefix_iff_eq_take.1 hpre
        have hfj : (((st ops f.2.2).take (held (st ops f.2.2))).map (fun o => ((3 : Int), o.2.1, f.2.2)))[j]? = some f := by
          have : (((frees (locks ops)).take i).filter (fun o => o.2.2 == f.2.2) ++ [f])[j]? = some f := by rw [List.getElem?_append_right (by omega), hj]; simp
          rw [hp, List.getElem?_take] at this
          split at this
          · exact this
          · cases this
        rw [List.getElem?_map, List.getElem?_take, if_pos (by omega)] at hfj
        obtain ⟨x, hx, hxe⟩ := Option.map_eq_some_iff.1 hfj
        rw [← hxe]
        refine ⟨rfl, ?_⟩
        simp only
        rw [show f.2.2 = f.2.2 from rfl, st_app]
        rw [hq, hj]
        have := free_nodes (held (st ops f.2.2)) (st ops f.2.2) (st_ok _ ops) (held_le _) j (by omega)
        refine mem_nodes.2 ⟨x, ?_, rfl⟩
        have h5 : (List.take j (List.map ((fun n => ((3 : Int), n, f.2.2)) ∘ fun x => x.2.1) (List.take (held (st ops f.2.2)) (st ops f.2.2)))).foldl stepL (st ops f.2.2) = (st ops f.2.2).drop j := this
        rw [h5]
        exact List.mem_of_getElem? (show ((st ops f.2.2).drop j)[0]? = some x by rw [List.getElem?_drop]; exact hx)
    obtain ⟨f0, f1, f2⟩ := f
    obtain ⟨rfl, hk2⟩ := hk
    have := glob_free (n := f1) (k := f2) hk2
    rw [List.length_append, List.length_singleton]
    omega
theorem rounds_count (ops : List LO) : ∀ i, (rounds ops i).length + (glob (rounds ops i)).length ≤ 2 * ops.length
  | 0 => by have := glob_len ops; show ops.length + (glob ops).length ≤ _; omega
  | i + 1 => by
    have ih := rounds_count ops i
    have h := frees_count (rounds ops i) (frees (locks (rounds ops i))).length (Nat.le_refl _)
    rw [List.take_length] at h
    show (rounds ops i ++ frees (locks (rounds ops i))).length + (glob (rounds ops i ++ frees (locks (rounds ops i)))).length ≤ _
    omega
end Go.Proofs.Ytdkgclgccicbeaa.Lk
