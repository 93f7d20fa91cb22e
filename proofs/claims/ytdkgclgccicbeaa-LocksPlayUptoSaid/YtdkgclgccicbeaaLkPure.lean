/-
  Package locks, pure: who asked stands in a row, a beginning of it has the key; who has it alone is alone; all that give up make all end; nobody goes ahead; keys do not touch each other.
-/
import Derived.WalkKit
namespace Go.Proofs.Ytdkgclgccicbeaa.Lk
set_option linter.unusedVariables false
set_option linter.unusedSimpArgs false

/-- An operation: kind, node, key. A lock: key, alone, who has it, who waits. -/
abbrev LO := Int × Int × Int
abbrev Lc := Int × Bool × List Int × List LO
def nodes (l : List LO) : List Int := l.map (·.2.1)
theorem nodes_app (a b : List LO) : nodes (a ++ b) = nodes a ++ nodes b := List.map_append
theorem mem_nodes {l : List LO} {n : Int} : n ∈ nodes l ↔ ∃ o ∈ l, o.2.1 = n := List.mem_map
/-- How many of a row have the key. -/
def share (o : LO) : Bool := decide (o.1 = 1)
def held : List LO → Nat
  | [] => 0
  | o :: r => if o.1 = 1 then (r.takeWhile share).length + 1 else 1
def errL (l : List LO) (o : LO) : Int :=
  if o.1 < 1 ∨ 3 < o.1 then 5 else
  if o.2.1 < 0 ∨ 15 < o.2.1 then 2 else
  if o.1 = 3 ∧ o.2.1 ∉ nodes l then 3 else
  if o.1 = 3 then 0 else
  if o.2.1 ∈ nodes l then 1 else
  if held (l ++ [o]) = l.length + 1 then 0 else 6
def without (l : List LO) (n : Int) : List LO := l.filter (fun x => !(x.2.1 == n))
def stepL (l : List LO) (o : LO) : List LO :=
  if errL l o = 0 ∨ errL l o = 6 then (if o.1 = 3 then without l o.2.1 else l ++ [o]) else l
def row (l : List LO) : List LO := l.foldl stepL []
theorem row_snoc (l : List LO) (o : LO) : row (l ++ [o]) = stepL (row l) o := by unfold row; rw [List.foldl_append]; rfl
/-- The row of a key. -/
def st (ops : List LO) (k : Int) : List LO := row (ops.filter (fun o => o.2.2 == k))
theorem st_nil (k : Int) : st [] k = [] := rfl
theorem st_same (ops : List LO) (o : LO) : st (ops ++ [o]) o.2.2 = stepL (st ops o.2.2) o := by
  unfold st
  rw [List.filter_append, show [o].filter (fun x => x.2.2 == o.2.2) = [o] by simp, row_snoc]
theorem st_other (ops : List LO) (o : LO) {k : Int} (h : ¬ o.2.2 = k) : st (ops ++ [o]) k = st ops k := by
  unfold st
  rw [List.filter_append, show [o].filter (fun x => x.2.2 == k) = [] by simp [h], List.append_nil]
theorem st_snoc (ops : List LO) (o : LO) (k : Int) : st (ops ++ [o]) k = if o.2.2 = k then stepL (st ops k) o else st ops k := by
  by_cases h : o.2.2 = k
  · subst h; rw [if_pos rfl, st_same]
  · rw [if_neg h, st_other _ _ h]
def errs (ops : List LO) : List Int := (ops.foldl (fun (p : List LO × List Int) o => (p.1 ++ [o], p.2 ++ [errL (st p.1 o.2.2) o])) ([], [])).2
theorem errs_fst (ops : List LO) : ∀ (a : List LO) (b : List Int), (ops.foldl (fun (p : List LO × List Int) o => (p.1 ++ [o], p.2 ++ [errL (st p.1 o.2.2) o])) (a, b)).1 = a ++ ops := by
  induction ops with
  | nil => intro a b; simp
  | cons o r ih => intro a b; rw [List.foldl_cons, ih]; simp
theorem errs_nil : errs [] = [] := rfl
theorem errs_snoc (ops : List LO) (o : LO) : errs (ops ++ [o]) = errs ops ++ [errL (st ops o.2.2) o] := by
  unfold errs
  rw [List.foldl_append]
  simp only [List.foldl_cons, List.foldl_nil, errs_fst, List.nil_append]
theorem snoc_ind {α : Type} {P : List α → Prop} (h0 : P []) (h1 : ∀ l x, P l → P (l ++ [x])) : ∀ l, P l := fun l => by
  have : ∀ r : List α, P r.reverse := fun r => by
    induction r with
    | nil => exact h0
    | cons x r ih => rw [List.reverse_cons]; exact h1 _ _ ih
  simpa using this l.reverse
theorem errs_len : ∀ ops, (errs ops).length = ops.length := snoc_ind rfl (fun l x h => by rw [errs_snoc]; simp [h])

/-! ### Keys in order -/
def ins (k : Int) : List Int → List Int
  | [] => [k]
  | x :: r => if k < x then k :: x :: r else if k = x then x :: r else x :: ins k r
theorem mem_ins {k y : Int} : ∀ {l : List Int}, y ∈ ins k l ↔ y = k ∨ y ∈ l
  | [] => by simp [ins]
  | x :: r => by
    unfold ins
    by_cases h : k < x
    · rw [if_pos h]; simp
    · rw [if_neg h]
      by_cases h2 : k = x
      · rw [if_pos h2, h2]; simp
      · rw [if_neg h2, List.mem_cons, mem_ins, List.mem_cons]
        constructor
        · rintro (h | h | h) <;> simp [h]
        · rintro (h | h | h) <;> simp [h]
theorem rise_ins {k : Int} : ∀ {l : List Int}, l.Pairwise (· < ·) → (ins k l).Pairwise (· < ·)
  | [], _ => by simp [ins]
  | x :: r, h => by
    unfold ins
    obtain ⟨h1, h2⟩ := List.pairwise_cons.1 h
    by_cases hk : k < x
    · rw [if_pos hk]
      refine List.pairwise_cons.2 ⟨fun y hy => ?_, h⟩
      rcases List.mem_cons.1 hy with rfl | hy
      · exact hk
      · exact Int.lt_trans hk (h1 y hy)
    · rw [if_neg hk]
      by_cases hk2 : k = x
      · rw [if_pos hk2]; exact h
      · rw [if_neg hk2]
        refine List.pairwise_cons.2 ⟨fun y hy => ?_, rise_ins h2⟩
        rcases mem_ins.1 hy with rfl | hy
        · omega
        · exact h1 y hy
def keys (ops : List LO) : List Int := ops.foldr (fun o l => ins o.2.2 l) []
theorem mem_keys {k : Int} : ∀ {ops : List LO}, k ∈ keys ops ↔ ∃ o ∈ ops, o.2.2 = k
  | [] => by simp [keys]
  | o :: r => by
    show k ∈ ins o.2.2 (keys r) ↔ _
    rw [mem_ins, mem_keys]
    constructor
    · rintro (rfl | ⟨x, hx, e⟩)
      · exact ⟨o, by simp, rfl⟩
      · exact ⟨x, by simp [hx], e⟩
    · rintro ⟨x, hx, e⟩
      rcases List.mem_cons.1 hx with rfl | hx
      · exact .inl e.symm
      · exact .inr ⟨x, hx, e⟩
theorem rise_keys : ∀ ops : List LO, (keys ops).Pairwise (· < ·)
  | [] => by simp [keys]
  | o :: r => rise_ins (rise_keys r)
def lockOf (k : Int) (l : List LO) : Lc := (k, decide (l.head?.map (·.1) = some 2), (l.take (held l)).map (·.2.1), l.drop (held l))
def locks (ops : List LO) : List Lc := ((keys ops).filter (fun k => !(st ops k).isEmpty)).map (fun k => lockOf k (st ops k))
theorem st_no_key {ops : List LO} {k : Int} (h : k ∉ keys ops) : st ops k = [] := by
  unfold st
  rw [show ops.filter (fun o => o.2.2 == k) = [] from List.filter_eq_nil_iff.2 fun o ho he => h (mem_keys.2 ⟨o, ho, by simpa using he⟩)]
  rfl
theorem mem_locks {ops : List LO} {x : Lc} : x ∈ locks ops ↔ st ops x.1 ≠ [] ∧ x = lockOf x.1 (st ops x.1) := by
  unfold locks
  rw [List.mem_map]
  constructor
  · rintro ⟨k, hk, rfl⟩
    rw [List.mem_filter] at hk
    refine ⟨fun e => ?_, rfl⟩
    have e' : st ops k = [] := e
    rw [e'] at hk
    simp at hk
  · rintro ⟨h1, h2⟩
    refine ⟨x.1, List.mem_filter.2 ⟨?_, ?_⟩, h2.symm⟩
    · by_cases h : x.1 ∈ keys ops
      · exact h
      · exact absurd (st_no_key h) h1
    · cases hs : st ops x.1 with
      | nil => exact absurd hs h1
      | cons a r => rfl
theorem rise_locks (ops : List LO) : (locks ops).Pairwise (fun a b => a.1 < b.1) := by
  unfold locks
  rw [List.pairwise_map]
  exact (rise_keys ops).filter _
/-- Rising rows with the same members are the same. -/
theorem rise_unique {α : Type} {key : α → Int} : ∀ {a b : List α}, a.Pairwise (fun x y => key x < key y) → b.Pairwise (fun x y => key x < key y) → (∀ x, x ∈ a ↔ x ∈ b) → a = b
  | [], [], _, _, _ => rfl
  | [], y :: b, _, _, h => absurd ((h y).2 (by simp)) (by simp)
  | x :: a, [], _, _, h => absurd ((h x).1 (by simp)) (by simp)
  | x :: a, y :: b, ha, hb, h => by
    obtain ⟨a1, a2⟩ := List.pairwise_cons.1 ha
    obtain ⟨b1, b2⟩ := List.pairwise_cons.1 hb
    have e : x = y := by
      rcases List.mem_cons.1 ((h x).1 (by simp)) with e | e
      · exact e
      · rcases List.mem_cons.1 ((h y).2 (by simp)) with e' | e'
        · exact e'.symm
        · have := b1 x e; have := a1 y e'; omega
    subst e
    refine congrArg _ (rise_unique a2 b2 fun z => ?_)
    have hz := h z
    rw [List.mem_cons, List.mem_cons] at hz
    constructor
    · intro hz1
      rcases hz.1 (.inr hz1) with rfl | h
      · have := a1 z hz1; omega
      · exact h
    · intro hz1
      rcases hz.2 (.inr hz1) with rfl | h
      · have := b1 z hz1; omega
      · exact h
theorem locks_unique {ops : List LO} {ls : List Lc} (h : ls.Pairwise (fun a b => a.1 < b.1)) (hm : ∀ x, x ∈ ls ↔ st ops x.1 ≠ [] ∧ x = lockOf x.1 (st ops x.1)) : ls = locks ops :=
  rise_unique (key := fun x => x.1) h (rise_locks ops) fun x => (hm x).trans mem_locks.symm

/-! ### What holds of a row -/
structure Ok (k : Int) (l : List LO) : Prop where
  nd : (nodes l).Nodup
  kind : ∀ o ∈ l, o.1 = 1 ∨ o.1 = 2
  node : ∀ o ∈ l, 0 ≤ o.2.1 ∧ o.2.1 ≤ 15
  key : ∀ o ∈ l, o.2.2 = k
theorem Ok.nil (k : Int) : Ok k [] := ⟨by simp [nodes], by simp, by simp, by simp⟩
theorem Ok.sub {k : Int} {l r : List LO} (h : Ok k l) (hs : r.Sublist l) : Ok k r :=
  ⟨h.nd.sublist (hs.map _), fun o ho => h.kind o (hs.subset ho), fun o ho => h.node o (hs.subset ho), fun o ho => h.key o (hs.subset ho)⟩
theorem errL_asks {l : List LO} {o : LO} (h : errL l o = 0 ∨ errL l o = 6) (h3 : ¬ o.1 = 3) : (o.1 = 1 ∨ o.1 = 2) ∧ (0 ≤ o.2.1 ∧ o.2.1 ≤ 15) ∧ o.2.1 ∉ nodes l := by
  unfold errL at h
  by_cases c1 : o.1 < 1 ∨ 3 < o.1
  · simp only [if_pos c1] at h; omega
  simp only [if_neg c1] at h
  by_cases c2 : o.2.1 < 0 ∨ 15 < o.2.1
  · simp only [if_pos c2] at h; omega
  simp only [if_neg c2] at h
  rw [if_neg (fun c => h3 c.1), if_neg h3] at h
  by_cases c3 : o.2.1 ∈ nodes l
  · simp only [if_pos c3] at h; omega
  exact ⟨by omega, by omega, c3⟩
theorem Ok.step {l : List LO} {o : LO} (h : Ok o.2.2 l) : Ok o.2.2 (stepL l o) := by
  unfold stepL
  by_cases he : errL l o = 0 ∨ errL l o = 6
  · rw [if_pos he]
    by_cases h3 : o.1 = 3
    · rw [if_pos h3]
      exact h.sub List.filter_sublist
    · rw [if_neg h3]
      obtain ⟨a, b, c⟩ := errL_asks he h3
      refine ⟨?_, fun x hx => ?_, fun x hx => ?_, fun x hx => ?_⟩
      · rw [nodes_app]
        exact List.nodup_append.2 ⟨h.nd, by simp [nodes], fun n hn m hm e => by
          simp only [nodes, List.map_cons, List.map_nil, List.mem_singleton] at hm
          subst hm e; exact c hn⟩
      all_goals rcases List.mem_append.1 hx with hx | hx
      · exact h.kind x hx
      · rw [List.mem_singleton.1 hx]; exact a
      · exact h.node x hx
      · rw [List.mem_singleton.1 hx]; exact b
      · exact h.key x hx
      · rw [List.mem_singleton.1 hx]
  · rw [if_neg he]; exact h
theorem st_ok (k : Int) : ∀ ops, Ok k (st ops k) := snoc_ind (Ok.nil k) (fun l o h => by
  rw [st_snoc]
  by_cases e : o.2.2 = k
  · subst e; rw [if_pos rfl]; exact h.step
  · rw [if_neg e]; exact h)
theorem takeWhile_len {α : Type} (p : α → Bool) : ∀ l : List α, (l.takeWhile p).length ≤ l.length
  | [] => by simp
  | x :: r => by
    rw [List.takeWhile_cons]
    split
    · simpa using takeWhile_len p r
    · simp
theorem held_cons (o : LO) (r : List LO) : held (o :: r) = if o.1 = 1 then (r.takeWhile share).length + 1 else 1 := rfl
theorem held_le : ∀ l, held l ≤ l.length
  | [] => Nat.le_refl 0
  | o :: r => by
    rw [held_cons, List.length_cons]
    have := takeWhile_len share r
    split <;> omega
theorem held_pos {l : List LO} (h : l ≠ []) : 0 < held l := by
  cases l with
  | nil => exact absurd rfl h
  | cons o r => rw [held_cons]; split <;> omega
/-- Has a place of a row the key? As it is reckoned: the first one, or one that shares behind one that shares and has it. -/
def has (l : List LO) (k : Nat) : Bool := decide (k < held l)
theorem takeWhile_lt {α : Type} {p : α → Bool} : ∀ {l : List α} {k : Nat}, k < (l.takeWhile p).length ↔ k < l.length ∧ ∀ j x, j ≤ k → l[j]? = some x → p x = true
  | [], k => by simp
  | y :: r, k => by
    rw [List.takeWhile_cons]
    by_cases hy : p y = true
    · rw [if_pos hy]
      cases k with
      | zero =>
        refine ⟨fun _ => ⟨by simp, fun j x hj hx => ?_⟩, fun _ => by simp⟩
        obtain rfl : j = 0 := by omega
        simp at hx; subst hx; exact hy
      | succ k =>
        rw [List.length_cons, List.length_cons, Nat.succ_lt_succ_iff, Nat.succ_lt_succ_iff, takeWhile_lt]
        constructor
        · rintro ⟨h1, h2⟩
          refine ⟨h1, fun j x hj hx => ?_⟩
          cases j with
          | zero => simp at hx; subst hx; exact hy
          | succ j => exact h2 j x (by omega) (by simpa using hx)
        · rintro ⟨h1, h2⟩
          exact ⟨h1, fun j x hj hx => h2 (j + 1) x (by omega) (by simpa using hx)⟩
    · rw [if_neg hy]
      refine ⟨fun h => by simp at h, fun ⟨_, h⟩ => absurd (h 0 y (by omega) (by simp)) hy⟩
theorem has_zero {l : List LO} (h : l ≠ []) : has l 0 = true := by unfold has; rw [decide_eq_true_iff]; exact held_pos h
theorem has_succ {o : LO} {r : List LO} {k : Nat} {x : LO} (hx : (o :: r)[k + 1]? = some x) : has (o :: r) (k + 1) = (decide (o.1 = 1) && decide (x.1 = 1) && has (o :: r) k) := by
  have hx' : r[k]? = some x := by simpa using hx
  have hk : k < r.length := (List.getElem?_eq_some_iff.1 hx').1
  unfold has
  rw [held_cons]
  by_cases ho : o.1 = 1
  · rw [if_pos ho]
    rw [Bool.eq_iff_iff]
    simp only [ho, Bool.and_eq_true, decide_eq_true_iff, decide_true, Bool.true_and]
    rw [Nat.succ_lt_succ_iff, takeWhile_lt]
    constructor
    · rintro ⟨h1, h2⟩
      refine ⟨by simpa [share] using h2 k x (Nat.le_refl _) hx', ?_⟩
      cases k with
      | zero => omega
      | succ k => exact Nat.succ_lt_succ (takeWhile_lt.2 ⟨by omega, fun j y hj hy => h2 j y (by omega) hy⟩)
    · rintro ⟨h1, h2⟩
      refine ⟨hk, fun j y hj hy => ?_⟩
      by_cases e : j = k
      · subst e; rw [hx'] at hy; cases hy; simp [share, h1]
      · cases k with
        | zero => omega
        | succ k => exact (takeWhile_lt.1 (Nat.lt_of_succ_lt_succ h2)).2 j y (by omega) hy
  · rw [if_neg ho]
    simp [ho]
end Go.Proofs.Ytdkgclgccicbeaa.Lk
