/-
  Package locks, pure: what the laws say.
-/
import Derived.Test.YtdkgclgccicbeaaLkPure
namespace Go.Proofs.Ytdkgclgccicbeaa.Lk
set_option linter.unusedVariables false
set_option linter.unusedSimpArgs false

/-! ### Who has it alone is alone; who waits first could not have it; nobody is there twice -/
theorem alone_one {l : List LO} (h : l.head?.map (·.1) = some 2) : held l = 1 := by
  cases l with
  | nil => cases h
  | cons o r =>
    have : o.1 = 2 := by simpa using h
    rw [held_cons, if_neg (by omega)]
theorem wait_own {k : Int} {l : List LO} (hl : Ok k l) (ha : ¬ l.head?.map (·.1) = some 2) {w : LO} (hw : (l.drop (held l)).head? = some w) : w.1 = 2 := by
  rw [List.head?_drop] at hw
  cases l with
  | nil => simp [held] at hw
  | cons o r =>
    have ho : o.1 = 1 := by
      rcases hl.kind o (by simp) with h | h
      · exact h
      · exact absurd (by simp [h]) ha
    rw [held_cons, if_pos ho, List.getElem?_cons_succ] at hw
    have hk := (List.getElem?_eq_some_iff.1 hw).1
    rcases hl.kind w (List.mem_cons_of_mem _ (List.mem_of_getElem? hw)) with h | h
    · have hn := mt takeWhile_lt.2 (Nat.lt_irrefl (r.takeWhile share).length)
      exact absurd ⟨hk, fun j x hj hx => by
        by_cases e : j = (r.takeWhile share).length
        · subst e; rw [hw] at hx; cases hx; simp [share, h]
        · exact (takeWhile_lt.1 (show j < (r.takeWhile share).length by omega)).2 j x (Nat.le_refl _) hx⟩ hn
    · exact h
theorem lock_nodup {k : Int} {l : List LO} (hl : Ok k l) : ((lockOf k l).2.2.1 ++ (lockOf k l).2.2.2.map (·.2.1)).Nodup := by
  unfold lockOf
  rw [← List.map_append, List.take_append_drop]
  exact hl.nd
theorem lock_right {ops : List LO} {x : Lc} (h : x ∈ locks ops) :
    x.2.2.1 ≠ [] ∧ (x.2.1 = true → x.2.2.1.length = 1) ∧ (x.2.1 = false → ∀ w, x.2.2.2.head? = some w → w.1 = 2) ∧ (∀ w ∈ x.2.2.2, w.2.2 = x.1) ∧ (x.2.2.1 ++ x.2.2.2.map (·.2.1)).Nodup := by
  obtain ⟨h1, h2⟩ := mem_locks.1 h
  have hl := st_ok x.1 ops
  have hp := held_pos h1
  have hle := held_le (st ops x.1)
  rw [h2]
  refine ⟨fun e => ?_, fun e => ?_, fun e w hw => ?_, fun w hw => ?_, lock_nodup hl⟩
  · have := congrArg List.length e
    simp only [lockOf, List.length_map, List.length_take, List.length_nil] at this
    omega
  · have ha := alone_one (of_decide_eq_true e)
    simp only [lockOf, List.length_map, List.length_take, ha]
    omega
  · exact wait_own hl (of_decide_eq_false e) hw
  · exact hl.key w (List.mem_of_mem_drop hw)

/-! ### Nobody waits for ever -/
def freesOf (x : Lc) : List LO := x.2.2.1.map (fun n => (3, n, x.1))
def frees (ls : List Lc) : List LO := ls.flatMap freesOf
theorem frees_key : ∀ (ls : List Lc), ls.Pairwise (fun a b => a.1 < b.1) → ∀ k, (frees ls).filter (fun o => o.2.2 == k) = match ls.find? (fun x => x.1 == k) with | some x => freesOf x | none => []
  | [], _, k => rfl
  | x :: r, h, k => by
    obtain ⟨h1, h2⟩ := List.pairwise_cons.1 h
    have ih := frees_key r h2 k
    unfold frees at ih ⊢
    rw [List.flatMap_cons, List.filter_append, ih, List.find?_cons]
    by_cases e : x.1 = k
    · have hn : r.find? (fun x => x.1 == k) = none := List.find?_eq_none.2 fun y hy hc => by
        have := h1 y hy
        have : y.1 = k := by simpa using hc
        omega
      rw [hn, show (x.1 == k) = true by simpa using e]
      simp only [List.append_nil]
      exact List.filter_eq_self.2 fun o ho => by
        unfold freesOf at ho
        obtain ⟨n, -, rfl⟩ := List.mem_map.1 ho
        simpa using e
    · rw [show (x.1 == k) = false by simpa using e]
      rw [show (freesOf x).filter (fun o => o.2.2 == k) = [] from List.filter_eq_nil_iff.2 fun o ho => by
        unfold freesOf at ho
        obtain ⟨n, -, rfl⟩ := List.mem_map.1 ho
        simpa using e]
      rfl
theorem locks_find (ops : List LO) (k : Int) : (locks ops).find? (fun x => x.1 == k) = if st ops k = [] then none else some (lockOf k (st ops k)) := by
  by_cases h : st ops k = []
  · rw [if_pos h]
    refine List.find?_eq_none.2 fun x hx hc => ?_
    have : x.1 = k := by simpa using hc
    exact (mem_locks.1 hx).1 (this ▸ h)
  · rw [if_neg h]
    have hm : lockOf k (st ops k) ∈ locks ops := mem_locks.2 ⟨h, rfl⟩
    cases hf : (locks ops).find? (fun x => x.1 == k) with
    | none => exact absurd (List.find?_eq_none.1 hf _ hm) (by simp [lockOf])
    | some y =>
      have hy := List.find?_some hf
      have hy2 := (mem_locks.1 (List.mem_of_find?_eq_some hf)).2
      have : y.1 = k := by simpa using hy
      rw [hy2, this]
theorem stepL_free {k : Int} {o : LO} {r : List LO} (h : Ok k (o :: r)) : stepL (o :: r) (3, o.2.1, k) = r ∧ errL (o :: r) (3, o.2.1, k) = 0 := by
  have hn := h.node o (by simp)
  have he : errL (o :: r) (3, o.2.1, k) = 0 := by
    unfold errL
    rw [if_neg (by simp), if_neg (by simp only; omega), if_neg (by simp [nodes]), if_pos rfl]
  refine ⟨?_, he⟩
  unfold stepL
  rw [if_pos (.inl he), if_pos rfl]
  unfold without
  rw [List.filter_cons, show (!(o.2.1 == o.2.1)) = false by simp]
  simp only [Bool.false_eq_true, if_false]
  refine List.filter_eq_self.2 fun x hx => ?_
  have := (List.nodup_cons.1 (show (o.2.1 :: nodes r).Nodup from h.nd)).1
  have hne : x.2.1 ≠ o.2.1 := fun e => this (mem_nodes.2 ⟨x, hx, e⟩)
  simpa using hne
theorem free_row {k : Int} : ∀ (j : Nat) (l : List LO), Ok k l → j ≤ l.length → ((l.take j).map (fun o => ((3 : Int), o.2.1, k))).foldl stepL l = l.drop j
  | 0, l, _, _ => by simp
  | j + 1, [], _, h => by simp at h
  | j + 1, o :: r, hl, h => by
    rw [List.take_succ_cons, List.map_cons, List.foldl_cons, (stepL_free hl).1, List.drop_succ_cons]
    exact free_row j r (hl.sub (List.sublist_cons_self o r)) (by simpa using h)
theorem st_app (a b : List LO) (k : Int) : st (a ++ b) k = (b.filter (fun o => o.2.2 == k)).foldl stepL (st a k) := by
  unfold st row
  rw [List.filter_append, List.foldl_append]
theorem st_frees (ops : List LO) (k : Int) : st (ops ++ frees (locks ops)) k = (st ops k).drop (held (st ops k)) := by
  rw [st_app, frees_key _ (rise_locks ops), locks_find]
  by_cases h : st ops k = []
  · rw [if_pos h, h]; rfl
  · rw [if_neg h]
    show (freesOf (lockOf k (st ops k))).foldl stepL (st ops k) = _
    unfold freesOf lockOf
    rw [List.map_map]
    exact free_row _ _ (st_ok k ops) (held_le _)
/-- After so many rounds. -/
def rounds (ops : List LO) : Nat → List LO
  | 0 => ops
  | i + 1 => rounds ops i ++ frees (locks (rounds ops i))
theorem st_len (k : Int) : ∀ ops, (st ops k).length ≤ ops.length := snoc_ind (by simp [st_nil]) (fun l o h => by
  rw [st_snoc, List.length_append]
  by_cases e : o.2.2 = k
  · rw [if_pos e]
    unfold stepL
    split
    · split
      · have : (without (st l k) o.2.1).length ≤ (st l k).length := List.length_filter_le _ _
        omega
      · simp; omega
    · omega
  · rw [if_neg e]; omega)
theorem rounds_len (ops : List LO) (k : Int) : ∀ i, (st (rounds ops i) k).length ≤ ops.length - i
  | 0 => st_len k ops
  | i + 1 => by
    have ih := rounds_len ops k i
    show (st (rounds ops i ++ frees (locks (rounds ops i))) k).length ≤ _
    rw [st_frees, List.length_drop]
    by_cases h : st (rounds ops i) k = []
    · rw [h]; simp
    · have := held_pos h; omega
theorem locks_nil {ops : List LO} (h : ∀ k, st ops k = []) : locks ops = [] := List.eq_nil_iff_forall_not_mem.2 fun x hx => (mem_locks.1 hx).1 (h x.1)
theorem rounds_end (ops : List LO) : locks (rounds ops ops.length) = [] := locks_nil fun k => List.eq_nil_iff_length_eq_zero.2 (by have := rounds_len ops k ops.length; omega)

/-! ### Nobody goes ahead -/
theorem err_same {l : List LO} {o : LO} (h : ¬ (errL l o = 0 ∨ errL l o = 6)) : stepL l o = l := if_neg h
theorem same_locks {ops : List LO} {o : LO} (h : ¬ (errL (st ops o.2.2) o = 0 ∨ errL (st ops o.2.2) o = 6)) : locks (ops ++ [o]) = locks ops := by
  refine (locks_unique (rise_locks (ops ++ [o])) fun x => ?_)
  rw [mem_locks, st_snoc]
  by_cases e : o.2.2 = x.1
  · rw [if_pos e, ← e, err_same h]
  · rw [if_neg e]
theorem err_free {l : List LO} {o : LO} (h3 : o.1 = 3) (h : errL l o = 0 ∨ errL l o = 6) : errL l o = 0 := by
  have e : errL l o = if o.2.1 < 0 ∨ 15 < o.2.1 then 2 else if o.2.1 ∉ nodes l then 3 else 0 := by
    unfold errL
    rw [if_neg (show ¬ (o.1 < 1 ∨ 3 < o.1) by omega)]
    simp only [h3, true_and, if_true]
  rw [e] at h ⊢
  by_cases a : o.2.1 < 0 ∨ 15 < o.2.1
  · simp only [if_pos a] at h; omega
  · simp only [if_neg a] at h ⊢
    by_cases b : o.2.1 ∉ nodes l
    · simp only [if_pos b] at h; omega
    · rw [if_neg b]
theorem take_all {α : Type} {p : α → Bool} : ∀ {l : List α}, (∀ x ∈ l, p x = true) → l.takeWhile p = l
  | [], _ => rfl
  | x :: r, h => by rw [List.takeWhile_cons, if_pos (h x (by simp)), take_all fun y hy => h y (by simp [hy])]
theorem err_kind {l : List LO} {o : LO} (h1 : ¬ o.1 = 1) (h2 : ¬ o.1 = 2) (h : errL l o = 0 ∨ errL l o = 6) : o.1 = 3 := by
  by_cases h3 : o.1 = 3
  · exact h3
  · have := (errL_asks h h3).1; omega
theorem held_all {l : List LO} {o : LO} {r : List LO} (e : l = o :: r) : held l = l.length ↔ o.1 = 1 ∧ (∀ x ∈ r, x.1 = 1) ∨ r = [] := by
  subst e
  rw [held_cons, List.length_cons]
  by_cases h : o.1 = 1
  · rw [if_pos h]
    constructor
    · intro he
      refine .inl ⟨h, fun x hx => ?_⟩
      obtain ⟨j, hj⟩ := List.mem_iff_getElem?.1 hx
      have hjl := (List.getElem?_eq_some_iff.1 hj).1
      have := (takeWhile_lt.1 (show j < (r.takeWhile share).length by omega)).2 j x (Nat.le_refl _) hj
      simpa [share] using this
    · rintro (⟨-, h2⟩ | rfl)
      · rw [take_all fun x hx => by simp [share, h2 x hx]]
      · rfl
  · rw [if_neg h]
    constructor
    · intro he; exact .inr (List.eq_nil_iff_length_eq_zero.2 (by omega))
    · rintro (⟨h2, -⟩ | rfl)
      · exact absurd h2 h
      · rfl
theorem fair_none {o : LO} (hk : o.1 = 1 ∨ o.1 = 2) (he : errL [] o = 0 ∨ errL [] o = 6) : errL [] o = 0 := by
  obtain ⟨-, a, b⟩ := errL_asks he (by omega)
  unfold errL
  rw [if_neg (by omega), if_neg (by omega), if_neg (by omega), if_neg (by omega), if_neg b, if_pos]
  show held [o] = 1
  rw [held_cons]; split <;> rfl
theorem fair_some {k : Int} {l : List LO} (hl : Ok k l) (hn : l ≠ []) {o : LO} (hk : o.1 = 1 ∨ o.1 = 2) (he : errL l o = 0 ∨ errL l o = 6) :
    errL l o = 0 ↔ (lockOf k l).2.2.2 = [] ∧ (lockOf k l).2.1 = false ∧ o.1 = 1 := by
  obtain ⟨-, a, b⟩ := errL_asks he (by omega)
  have e : errL l o = if held (l ++ [o]) = l.length + 1 then 0 else 6 := by
    unfold errL
    rw [if_neg (by omega), if_neg (by omega), if_neg (by omega), if_neg (by omega), if_neg b]
  have e2 : errL l o = 0 ↔ held (l ++ [o]) = (l ++ [o]).length := by
    rw [e, List.length_append, show [o].length = 1 from rfl]
    split <;> simp [*]
  rw [e2]
  cases l with
  | nil => exact absurd rfl hn
  | cons q r =>
    rw [List.cons_append, held_all (o := q) (r := r ++ [o]) rfl]
    unfold lockOf
    simp only [List.head?_cons, Option.map_some, Option.some.injEq, decide_eq_false_iff_not]
    rw [List.drop_eq_nil_iff]
    have hle := held_le (q :: r)
    constructor
    · rintro (⟨h1, h2⟩ | h)
      · refine ⟨?_, by omega, h2 o (by simp)⟩
        rw [Nat.le_antisymm hle (Nat.le_of_eq ((held_all rfl).2 (.inl ⟨h1, fun x hx => h2 x (by simp [hx])⟩)).symm)]
        exact Nat.le_refl _
      · simp at h
    · rintro ⟨h1, h2, h3⟩
      have hq : q.1 = 1 := by
        rcases hl.kind q (by simp) with h | h
        · exact h
        · exact absurd h h2
      refine .inl ⟨hq, fun x hx => ?_⟩
      rcases List.mem_append.1 hx with hx | hx
      · rcases (held_all rfl).1 (Nat.le_antisymm hle h1) with ⟨-, h⟩ | h
        · exact h x hx
        · rw [h] at hx; cases hx
      · rw [List.mem_singleton.1 hx]; exact h3

/-! ### Keys do not touch each other -/
def own (ops : List LO) (k : Int) : List LO := ops.filter (fun o => o.2.2 == k)
theorem own_snoc_same (ops : List LO) (o : LO) : own (ops ++ [o]) o.2.2 = own ops o.2.2 ++ [o] := by
  unfold own
  rw [List.filter_append]; simp
theorem own_snoc_other (ops : List LO) (o : LO) {k : Int} (h : ¬ o.2.2 = k) : own (ops ++ [o]) k = own ops k := by
  unfold own
  rw [List.filter_append]; simp [h]
theorem st_own (ops : List LO) (k : Int) : st (own ops k) k = st ops k := by
  unfold st own
  rw [List.filter_filter]; simp
theorem st_own_other (ops : List LO) {k j : Int} (h : ¬ j = k) : st (own ops k) j = [] := by
  unfold st own
  rw [List.filter_filter, show ops.filter (fun o => o.2.2 == j && o.2.2 == k) = [] from List.filter_eq_nil_iff.2 fun o _ hc => by
    simp only [Bool.and_eq_true, beq_iff_eq] at hc
    exact h (hc.1.symm.trans hc.2)]
  rfl
/-- The errors of a key's operations. -/
def want (ops : List LO) (k : Int) : List Int := ((ops.zip (errs ops)).filter (fun p => p.1.2.2 == k)).map (·.2)
theorem zip_snoc (ops : List LO) (o : LO) : (ops ++ [o]).zip (errs (ops ++ [o])) = ops.zip (errs ops) ++ [(o, errL (st ops o.2.2) o)] := by
  rw [errs_snoc, List.zip_append (errs_len ops).symm]; rfl
theorem want_own (k : Int) : ∀ ops, errs (own ops k) = want ops k := snoc_ind rfl (fun l o h => by
  unfold want
  rw [zip_snoc, List.filter_append, List.map_append]
  by_cases e : o.2.2 = k
  · subst e
    rw [own_snoc_same, errs_snoc, st_own, h]
    simp [want]
  · rw [own_snoc_other _ _ e, h]
    simp [want, e])
theorem locks_own (ops : List LO) (k : Int) : (locks ops).filter (fun x => x.1 == k) = locks (own ops k) := by
  refine locks_unique ((rise_locks ops).filter _) fun x => ?_
  rw [List.mem_filter, mem_locks, beq_iff_eq]
  by_cases e : x.1 = k
  · rw [e, st_own]; simp
  · rw [st_own_other _ e]; simp [e]
end Go.Proofs.Ytdkgclgccicbeaa.Lk
