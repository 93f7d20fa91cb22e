/-
  Lookup tables, pure: turns, the table at the end, how often each stands in it.
-/
import Derived.Test.YtahhgeecikljdaaTbPure
namespace Go.Proofs.Ytahhgeecikljdaa.Tb
set_option linter.unusedVariables false
set_option linter.unusedSimpArgs false

/-- The first of a list that is not yet taken. -/
def pick (l ps : List Nat) : Nat := (l.find? (fun x => decide (x ∉ ps))).getD 0
theorem pick_of {pre rest ps : List Nat} {x : Nat} (h1 : ∀ y ∈ pre, y ∈ ps) (h2 : x ∉ ps) : pick (pre ++ x :: rest) ps = x := by
  unfold pick
  rw [List.find?_append]
  have : pre.find? (fun x => decide (x ∉ ps)) = none := List.find?_eq_none.2 (fun y hy => by simpa using h1 y hy)
  rw [this]
  simp [List.find?_cons, h2]
theorem pick_split {l ps : List Nat} {p : Nat} (hl : Full l p) (hn : ps.length < p) : ∃ pre rest, l = pre ++ pick l ps :: rest ∧ (∀ y ∈ pre, y ∈ ps) ∧ pick l ps ∉ ps ∧ pick l ps < p := by
  obtain ⟨q, hq, hf⟩ := has_free hn
  have hs : (l.find? (fun x => decide (x ∉ ps))).isSome := by
    rw [List.find?_isSome]; exact ⟨q, (hl.2 q).2 hq, by simpa using hf⟩
  obtain ⟨x, hx⟩ := Option.isSome_iff_exists.1 hs
  obtain ⟨h1, pre, rest, h2, h3⟩ := List.find?_eq_some_iff_append.1 hx
  have e : pick l ps = x := by unfold pick; rw [hx]; rfl
  rw [e]
  refine ⟨pre, rest, h2, fun y hy => ?_, by simpa using h1, (hl.2 x).1 (by rw [h2]; simp)⟩
  have := h3 y hy
  simpa using this
/-- The positions chosen in the first n turns. -/
def ch (L : Nat → List Nat) (m : Nat) : Nat → List Nat
  | 0 => []
  | n + 1 => ch L m n ++ [pick (L (n % m)) (ch L m n)]
def sel (L : Nat → List Nat) (m n : Nat) : Nat := pick (L (n % m)) (ch L m n)
theorem ch_succ (L : Nat → List Nat) (m n : Nat) : ch L m (n + 1) = ch L m n ++ [sel L m n] := rfl
theorem ch_len (L : Nat → List Nat) (m n : Nat) : (ch L m n).length = n := by
  induction n with
  | zero => rfl
  | succ n ih => rw [ch_succ, List.length_append, ih]; rfl
theorem ch_at (L : Nat → List Nat) (m : Nat) {k n : Nat} (h : k < n) : (ch L m n)[k]? = some (sel L m k) := by
  induction n with
  | zero => omega
  | succ n ih =>
    rw [ch_succ]
    rcases Nat.lt_or_ge k n with h1 | h1
    · rw [List.getElem?_append_left (by rw [ch_len]; exact h1)]; exact ih h1
    · obtain rfl : k = n := by omega
      rw [List.getElem?_append_right (by rw [ch_len]; exact Nat.le_refl _), ch_len, Nat.sub_self]; rfl
def tb (ids : List Int) (L : Nat → List Nat) (m p : Nat) : Nat → List Int
  | 0 => List.replicate p 0
  | n + 1 => (tb ids L m p n).set (sel L m n) (ids.getD (n % m) 0)
def mk (L : Nat → List Nat) (m p : Nat) : Nat → List Bool
  | 0 => List.replicate p false
  | n + 1 => (mk L m p n).set (sel L m n) true
section
variable {L : Nat → List Nat} {m p : Nat} {ids : List Int}
theorem tb_succ (n : Nat) : tb ids L m p (n + 1) = (tb ids L m p n).set (sel L m n) (ids.getD (n % m) 0) := rfl
theorem mk_succ (n : Nat) : mk L m p (n + 1) = (mk L m p n).set (sel L m n) true := rfl
theorem tb_len (n : Nat) : (tb ids L m p n).length = p := by
  induction n with
  | zero => simp [tb]
  | succ n ih => rw [tb_succ, List.length_set, ih]
theorem mk_len (n : Nat) : (mk L m p n).length = p := by
  induction n with
  | zero => simp [mk]
  | succ n ih => rw [mk_succ, List.length_set, ih]
theorem mk_at {q : Nat} (hq : q < p) (n : Nat) : (mk L m p n)[q]? = some (decide (q ∈ ch L m n)) := by
  induction n with
  | zero => simp [mk, ch, hq]
  | succ n ih =>
    rw [mk_succ, ch_succ, List.getElem?_set]
    by_cases e : sel L m n = q
    · rw [if_pos e, if_pos (by rw [mk_len]; omega)]; simp [e]
    · rw [if_neg e, ih]; simp [show ¬ q = sel L m n from fun h => e h.symm]
/-- Every node likes each position once. -/
def Fulls (L : Nat → List Nat) (m p : Nat) : Prop := 0 < m ∧ ∀ i, i < m → Full (L i) p
theorem sel_split (h : Fulls L m p) {n : Nat} (hn : n < p) : ∃ pre rest, L (n % m) = pre ++ sel L m n :: rest ∧ (∀ y ∈ pre, y ∈ ch L m n) ∧ sel L m n ∉ ch L m n ∧ sel L m n < p :=
  pick_split (h.2 _ (Nat.mod_lt _ h.1)) (by rw [ch_len]; exact hn)
theorem sel_lt (h : Fulls L m p) {n : Nat} (hn : n < p) : sel L m n < p := by obtain ⟨_, _, _, _, _, h5⟩ := sel_split h hn; exact h5
theorem ch_nodup (h : Fulls L m p) {n : Nat} (hn : n ≤ p) : (ch L m n).Nodup := by
  induction n with
  | zero => exact List.Pairwise.nil
  | succ n ih =>
    obtain ⟨_, _, _, _, h4, _⟩ := sel_split h (n := n) (by omega)
    rw [ch_succ, List.nodup_append]
    exact ⟨ih (by omega), by simp, fun a ha b hb e => by simp at hb; subst hb; subst e; exact h4 ha⟩
theorem ch_lt (h : Fulls L m p) {n : Nat} (hn : n ≤ p) : ∀ q ∈ ch L m n, q < p := fun q hq => by
  obtain ⟨k, hk⟩ := List.mem_iff_getElem?.1 hq
  have hkn := (List.getElem?_eq_some_iff.1 hk).1
  rw [ch_len] at hkn
  rw [ch_at L m hkn] at hk
  injection hk with hk
  subst hk
  exact sel_lt h (by omega)
theorem ch_full (h : Fulls L m p) : Full (ch L m p) p := full_of (ch_nodup h (Nat.le_refl _)) (ch_lt h (Nat.le_refl _)) (ch_len L m p)
theorem sel_ne (h : Fulls L m p) {k n : Nat} (hk : k < n) (hn : n < p) : sel L m k ≠ sel L m n := fun e => by
  obtain ⟨_, _, _, _, h4, _⟩ := sel_split h hn
  exact h4 (e ▸ List.mem_of_getElem? (ch_at L m hk))
theorem tb_at (h : Fulls L m p) {k n : Nat} (hk : k < n) (hn : n ≤ p) : (tb ids L m p n)[sel L m k]? = some (ids.getD (k % m) 0) := by
  induction n with
  | zero => omega
  | succ n ih =>
    rw [tb_succ, List.getElem?_set]
    rcases Nat.lt_or_ge k n with h1 | h1
    · rw [if_neg (fun e => sel_ne h h1 (by omega) e.symm)]; exact ih h1 (by omega)
    · obtain rfl : k = n := by omega
      rw [if_pos rfl, if_pos (by rw [tb_len]; exact sel_lt h (by omega))]
/-- The whole table holds the nodes in turn, in another order. -/
theorem tb_perm (h : Fulls L m p) : (tb ids L m p p).Perm ((List.range p).map (fun k => ids.getD (k % m) 0)) := by
  have e1 : tb ids L m p p = (List.range p).map (fun q => (tb ids L m p p).getD q 0) := by
    apply List.ext_getElem?
    intro i
    rcases Nat.lt_or_ge i p with hi | hi
    · have hl : i < (tb ids L m p p).length := by rw [tb_len]; exact hi
      rw [List.getElem?_map, List.getElem?_range hi, List.getElem?_eq_getElem hl]
      simp [List.getD_eq_getElem?_getD, List.getElem?_eq_getElem hl]
    · rw [List.getElem?_eq_none (by rw [tb_len]; exact hi), List.getElem?_eq_none (by simp; exact hi)]
  have e2 : (ch L m p).map (fun q => (tb ids L m p p).getD q 0) = (List.range p).map (fun k => ids.getD (k % m) 0) := by
    apply List.ext_getElem?
    intro i
    rcases Nat.lt_or_ge i p with hi | hi
    · rw [List.getElem?_map, List.getElem?_map, List.getElem?_range hi, ch_at L m hi]
      simp only [Option.map_some]
      rw [List.getD_eq_getElem?_getD, tb_at h hi (Nat.le_refl _)]; rfl
    · rw [List.getElem?_eq_none (by simp [ch_len]; exact hi), List.getElem?_eq_none (by simp; exact hi)]
  have h3 := ((ch_full h).perm.map (fun q => (tb ids L m p p).getD q 0)).symm
  rw [← e1, e2] at h3
  exact h3
theorem tb_mem (h : Fulls L m p) (hm : ids.length = m) {x : Int} (hx : x ∈ tb ids L m p p) : x ∈ ids := by
  have := (tb_perm h).mem_iff.1 hx
  obtain ⟨k, _, rfl⟩ := List.mem_map.1 this
  have hk : k % m < ids.length := by rw [hm]; exact Nat.mod_lt _ h.1
  rw [List.getD_eq_getElem?_getD, List.getElem?_eq_getElem hk]
  exact List.getElem_mem hk
theorem turns (hm : 0 < m) {j : Nat} (hj : j < m) (n : Nat) : (List.range n).countP (fun k => decide (k % m = j)) = n / m + if j < n % m then 1 else 0 := by
  induction n with
  | zero => simp
  | succ n ih =>
    rw [List.range_succ, List.countP_append, List.countP_singleton, ih]
    have hr := Nat.mod_lt n hm
    have hd := Nat.div_add_mod n m
    rcases (by omega : n % m + 1 < m ∨ n % m + 1 = m) with h1 | h1
    · have : (n + 1) / m = n / m ∧ (n + 1) % m = n % m + 1 := by
        refine (Nat.div_mod_unique hm).2 ⟨?_, h1⟩
        omega
      rw [this.1, this.2]
      by_cases e : n % m = j
      · simp [e]
      · simp only [e, decide_false, Bool.false_eq_true, if_false, Nat.add_zero]
        congr 1
        by_cases e2 : j < n % m
        · rw [if_pos e2, if_pos (by omega)]
        · rw [if_neg e2, if_neg (by omega)]
    · have : (n + 1) / m = n / m + 1 ∧ (n + 1) % m = 0 := by
        refine (Nat.div_mod_unique hm).2 ⟨?_, hm⟩
        rw [Nat.mul_add, Nat.mul_one]; omega
      rw [this.1, this.2]
      by_cases e : n % m = j
      · simp [e]
      · simp [e]; omega
theorem id_turn (hm : ids.length = m) (hn : ids.Nodup) {j k : Nat} {x : Int} (hx : ids[j]? = some x) (hk : k < m) : ids.getD k 0 = x ↔ k = j := by
  have h1 := List.getElem?_eq_getElem (show k < ids.length by omega)
  obtain ⟨h2, e⟩ := List.getElem?_eq_some_iff.1 hx
  rw [List.getD_eq_getElem?_getD, h1]
  simp only [Option.getD_some]
  constructor
  · intro h
    have h3 := h.trans e.symm
    have hp := List.pairwise_iff_getElem.1 hn
    rcases Nat.lt_trichotomy k j with h4 | h4 | h4
    · exact absurd h3 (hp k j _ _ h4)
    · exact h4
    · exact absurd h3.symm (hp j k _ _ h4)
  · rintro rfl; exact e
theorem tb_count (h : Fulls L m p) (hm : ids.length = m) (hn : ids.Nodup) {j : Nat} {x : Int} (hx : ids[j]? = some x) :
    (tb ids L m p p).count x = p / m + if j < p % m then 1 else 0 := by
  rw [(tb_perm h).count_eq, List.count_eq_countP, List.countP_map, ← turns h.1 (j := j) (by have := (List.getElem?_eq_some_iff.1 hx).1; omega) p]
  refine List.countP_congr fun k _ => ?_
  have := id_turn hm hn hx (Nat.mod_lt k h.1)
  simp only [Function.comp_apply, beq_iff_eq, decide_eq_true_iff]
  exact this
end
end Go.Proofs.Ytahhgeecikljdaa.Tb
