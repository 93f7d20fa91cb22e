/-
  Package orset, pure: observed-remove sets; put, drop, all, join; Shapiro's lattice.
-/
import Derived.WalkKit
namespace Go.Proofs.Ythebilmeehnkpaa.Ors
set_option linter.unusedVariables false
set_option linter.unusedSimpArgs false

/-- A tag: who, its number, what. -/
abbrev Tg := Int × Int × Int
/-- A bag: its tags, how many each one put. -/
abbrev Bg := List Tg × List Int
def sawAt (s : List Int) (w : Int) : Int := s.getD w.toNat 0
def klt (a b : Tg) : Bool := decide (a.1 < b.1) || (decide (a.1 = b.1) && decide (a.2.1 < b.2.1))
def okTag (s : List Int) (t : Tg) : Bool := decide (0 ≤ t.1) && decide (t.1 < (s.length : Int)) && decide (0 < t.2.1) && decide (t.2.1 ≤ sawAt s t.1)
def okFrom (s : List Int) : Tg → List Tg → Bool
  | _, [] => true
  | p, t :: l => okTag s t && klt p t && okFrom s t l
def okX (x : Int) : Bool := decide (0 ≤ x) && decide (x ≤ 1099511627776)
def okB (b : Bg) : Bool := decide (b.2.length ≤ 16) && decide (b.1.length ≤ 400) && b.2.all okX && okFrom b.2 (-1, 0, 0) b.1
def TagIn (s : List Int) (t : Tg) : Prop := 0 ≤ t.1 ∧ t.1 < (s.length : Int) ∧ 0 < t.2.1 ∧ t.2.1 ≤ sawAt s t.1
def Klt (a b : Tg) : Prop := a.1 < b.1 ∨ a.1 = b.1 ∧ a.2.1 < b.2.1
structure OkB (b : Bg) : Prop where
  wide : b.2.length ≤ 16
  many : b.1.length ≤ 400
  saw : ∀ x ∈ b.2, 0 ≤ x ∧ x ≤ 1099511627776
  tags : ∀ t ∈ b.1, TagIn b.2 t
  rise : b.1.Pairwise Klt

theorem klt_iff {a b : Tg} : klt a b = true ↔ Klt a b := by simp [klt, Klt]
theorem okTag_iff {s : List Int} {t : Tg} : okTag s t = true ↔ TagIn s t := by simp [okTag, TagIn, and_assoc]
theorem Klt.trans {a b c : Tg} (h : Klt a b) (k : Klt b c) : Klt a c := by unfold Klt at *; omega
theorem Klt.irrefl (a : Tg) : ¬ Klt a a := by unfold Klt; omega
theorem okFrom_iff {s : List Int} : ∀ {l : List Tg} {p : Tg}, okFrom s p l = true ↔ (∀ t ∈ l, TagIn s t ∧ Klt p t) ∧ l.Pairwise Klt
  | [], p => by simp [okFrom]
  | t :: l, p => by
    simp only [okFrom, Bool.and_eq_true, okTag_iff, klt_iff, okFrom_iff (l := l), List.pairwise_cons, List.mem_cons, forall_eq_or_imp]
    constructor
    · rintro ⟨⟨h1, h2⟩, h3, h4⟩
      exact ⟨⟨⟨h1, h2⟩, fun x hx => ⟨(h3 x hx).1, h2.trans (h3 x hx).2⟩⟩, fun x hx => (h3 x hx).2, h4⟩
    · rintro ⟨⟨⟨h1, h2⟩, h3⟩, h4, h5⟩
      exact ⟨⟨h1, h2⟩, fun x hx => ⟨(h3 x hx).1, h4 x hx⟩, h5⟩
theorem okB_iff {b : Bg} : okB b = true ↔ OkB b := by
  unfold okB
  rw [Bool.and_eq_true, Bool.and_eq_true, Bool.and_eq_true, decide_eq_true_eq, decide_eq_true_eq, okFrom_iff, List.all_eq_true]
  constructor
  · rintro ⟨⟨⟨h1, h2⟩, h3⟩, h4, h5⟩
    exact ⟨h1, h2, fun x hx => by have := h3 x hx; simpa [okX] using this, fun t ht => (h4 t ht).1, h5⟩
  · rintro ⟨h1, h2, h3, h4, h5⟩
    refine ⟨⟨⟨h1, h2⟩, fun x hx => by have := h3 x hx; simpa [okX] using this⟩, fun t ht => ⟨h4 t ht, ?_⟩, h5⟩
    have := (h4 t ht).1
    unfold Klt
    left
    show (-1 : Int) < t.1
    omega
theorem okFrom_snoc {s : List Int} : ∀ (l : List Tg) (p x : Tg), okFrom s p (l ++ [x]) = (okFrom s p l && (okTag s x && klt (l.getLast?.getD p) x))
  | [], p, x => by simp [okFrom]
  | y :: l, p, x => by
    rw [List.cons_append, okFrom, okFrom_snoc l y x, okFrom, List.getLast?_cons]
    simp [Bool.and_assoc]

/-! ### Rising lists -/
theorem rise_nodup {l : List Tg} (h : l.Pairwise Klt) : l.Nodup := h.imp (fun {a b} k e => by subst e; exact Klt.irrefl _ k)
theorem rise_key {l : List Tg} (h : l.Pairwise Klt) {t u : Tg} (ht : t ∈ l) (hu : u ∈ l) (h1 : t.1 = u.1) (h2 : t.2.1 = u.2.1) : t = u := by
  induction l with
  | nil => simp at ht
  | cons x l ih =>
    rw [List.pairwise_cons] at h
    rcases List.mem_cons.1 ht with rfl | ht' <;> rcases List.mem_cons.1 hu with rfl | hu'
    · rfl
    · have := h.1 u hu'; unfold Klt at this; omega
    · have := h.1 t ht'; unfold Klt at this; omega
    · exact ih h.2 ht' hu'
theorem rise_unique {l k : List Tg} (h1 : l.Pairwise Klt) (h2 : k.Pairwise Klt) (h : ∀ t, t ∈ l ↔ t ∈ k) : l = k :=
  List.Perm.eq_of_pairwise (le := Klt) (fun a b _ _ h1 h2 => absurd (h1.trans h2) (Klt.irrefl _)) h1 h2 ((List.perm_ext_iff_of_nodup (rise_nodup h1) (rise_nodup h2)).2 h)
theorem nodup_len {α : Type} [DecidableEq α] : ∀ {l k : List α}, l.Nodup → (∀ t ∈ l, t ∈ k) → l.length ≤ k.length
  | [], _, _, _ => Nat.zero_le _
  | x :: l, k, h, hs => by
    rw [List.nodup_cons] at h
    have hx := hs x (by simp)
    have ih := nodup_len (l := l) (k := k.erase x) h.2 (fun t ht => (List.mem_erase_of_ne (fun e => h.1 (by rw [← e]; exact ht))).2 (hs t (List.mem_cons_of_mem _ ht)))
    rw [List.length_erase_of_mem hx] at ih
    have := List.length_pos_of_mem hx
    rw [List.length_cons]
    omega
theorem rise_len {l k : List Tg} (h1 : l.Pairwise Klt) (h : ∀ t ∈ l, t ∈ k) : l.length ≤ k.length := nodup_len (rise_nodup h1) h

/-! ### Join -/
def tle (a b : Tg) : Bool := !klt b a
def keepL (b : Bg) (t : Tg) : Bool := decide (t ∈ b.1) || decide (sawAt b.2 t.1 < t.2.1)
def keepR (a : Bg) (t : Tg) : Bool := decide (sawAt a.2 t.1 < t.2.1)
def joinH (a b : Bg) : List Tg := (a.1.filter (keepL b) ++ b.1.filter (keepR a)).mergeSort tle
def joinS (a b : Bg) : List Int := List.zipWith max a.2 b.2
def conflict (a b : Bg) : Bool := a.1.any (fun t => b.1.any (fun u => decide (t.1 = u.1) && decide (t.2.1 = u.2.1) && !decide (t.2.2 = u.2.2)))
def joinE (a b : Bg) : Int := if okB a = true ∧ okB b = true ∧ a.2.length = b.2.length then (if conflict a b = true then 7 else if 400 < (joinH a b).length then 4 else 0) else 1
def joinB (a b : Bg) : Bg := if joinE a b = 0 then (joinH a b, joinS a b) else ([], [])
/-- Which tags stay. -/
def Keep (a b : Bg) (t : Tg) : Prop := t ∈ a.1 ∧ t ∈ b.1 ∨ t ∈ a.1 ∧ sawAt b.2 t.1 < t.2.1 ∨ t ∈ b.1 ∧ sawAt a.2 t.1 < t.2.1
def Apart (a b : Bg) : Prop := ∀ t ∈ a.1, ∀ u ∈ b.1, t.1 = u.1 → t.2.1 = u.2.1 → t.2.2 = u.2.2
theorem conflict_iff {a b : Bg} : conflict a b = false ↔ Apart a b := by
  unfold conflict Apart
  rw [List.any_eq_false]
  refine forall_congr' fun t => forall_congr' fun ht => ?_
  rw [Bool.not_eq_true, List.any_eq_false]
  refine forall_congr' fun u => forall_congr' fun hu => ?_
  by_cases h1 : t.1 = u.1 <;> by_cases h2 : t.2.1 = u.2.1 <;> by_cases h3 : t.2.2 = u.2.2 <;> simp [h1, h2, h3]
theorem tle_trans (a b c : Tg) (h1 : tle a b = true) (h2 : tle b c = true) : tle a c = true := by
  unfold tle at *
  simp only [Bool.not_eq_true', ← Bool.not_eq_true, klt_iff, Klt] at *
  omega
theorem tle_total (a b : Tg) : (tle a b || tle b a) = true := by
  unfold tle
  cases h : klt b a with
  | false => rfl
  | true =>
    cases h2 : klt a b with
    | false => rfl
    | true => rw [klt_iff] at h h2; exact absurd (h.trans h2) (Klt.irrefl _)
theorem joinH_mem {a b : Bg} (t : Tg) : t ∈ joinH a b ↔ Keep a b t := by
  unfold joinH Keep keepL keepR
  rw [List.mem_mergeSort, List.mem_append, List.mem_filter, List.mem_filter]
  simp only [Bool.or_eq_true, decide_eq_true_eq]
  constructor
  · rintro (⟨h1, h2 | h2⟩ | h)
    · exact .inl ⟨h1, h2⟩
    · exact .inr (.inl ⟨h1, h2⟩)
    · exact .inr (.inr h)
  · rintro (⟨h1, h2⟩ | ⟨h1, h2⟩ | h)
    · exact .inl ⟨h1, .inl h2⟩
    · exact .inl ⟨h1, .inr h2⟩
    · exact .inr h
theorem joinH_rise {a b : Bg} (ha : OkB a) (hb : OkB b) : (joinH a b).Pairwise Klt := by
  have hs : (joinH a b).Pairwise (fun x y => tle x y = true) := List.pairwise_mergeSort tle_trans tle_total _
  have hk : (joinH a b).Pairwise (fun x y => ¬ (x.1 = y.1 ∧ x.2.1 = y.2.1)) := by
    have h0 : (a.1.filter (keepL b) ++ b.1.filter (keepR a)).Pairwise (fun x y : Tg => ¬ (x.1 = y.1 ∧ x.2.1 = y.2.1)) := by
      rw [List.pairwise_append]
      refine ⟨(ha.rise.filter _).imp (fun {x y} h e => by unfold Klt at h; omega), (hb.rise.filter _).imp (fun {x y} h e => by unfold Klt at h; omega), fun x hx y hy e => ?_⟩
      have h1 := ha.tags x (List.mem_filter.1 hx).1
      have h2 := (List.mem_filter.1 hy).2
      unfold keepR at h2
      rw [decide_eq_true_eq] at h2
      unfold TagIn at h1
      rw [e.1, e.2] at h1
      omega
    exact (List.mergeSort_perm _ tle).symm.pairwise h0 (fun {x y} h e => h ⟨e.1.symm, e.2.symm⟩)
  refine (hs.and hk).imp (fun {x y} h => ?_)
  have h1 := h.1
  have h2 := h.2
  unfold tle at h1
  simp only [Bool.not_eq_true', ← Bool.not_eq_true, klt_iff, Klt] at h1
  unfold Klt
  omega
/-- Whatever rises and holds what stays is the join. -/
theorem joinH_is {a b : Bg} (ha : OkB a) (hb : OkB b) {l : List Tg} (h1 : l.Pairwise Klt) (h2 : ∀ t, t ∈ l ↔ Keep a b t) : joinH a b = l :=
  rise_unique (joinH_rise ha hb) h1 (fun t => by rw [joinH_mem, h2])
theorem joinS_len {a b : Bg} (h : a.2.length = b.2.length) : (joinS a b).length = a.2.length := by unfold joinS; rw [List.length_zipWith, h]; exact Nat.min_self _
theorem joinS_at {a b : Bg} (h : a.2.length = b.2.length) {w : Int} (h0 : 0 ≤ w) (hw : w < (a.2.length : Int)) : sawAt (joinS a b) w = max (sawAt a.2 w) (sawAt b.2 w) := by
  obtain ⟨k, rfl⟩ : ∃ k : Nat, w = (k : Int) := ⟨w.toNat, by omega⟩
  unfold sawAt joinS
  rw [Int.toNat_natCast]
  have h1 : a.2[k]? = some (a.2[k]'(by omega)) := List.getElem?_eq_getElem _
  have h2 : b.2[k]? = some (b.2[k]'(by omega)) := List.getElem?_eq_getElem _
  simp only [List.getD_eq_getElem?_getD, List.getElem?_zipWith, h1, h2, Option.getD_some]
theorem joinH_le {a b : Bg} (ha : OkB a) (hb : OkB b) : (joinH a b).length ≤ a.1.length + b.1.length := by
  have := rise_len (k := a.1 ++ b.1) (joinH_rise ha hb) (fun t ht => by
    rw [joinH_mem] at ht
    rcases ht with h | h | h
    · exact List.mem_append_left _ h.1
    · exact List.mem_append_left _ h.1
    · exact List.mem_append_right _ h.1)
  rwa [List.length_append] at this
theorem join_ok {a b : Bg} (ha : OkB a) (hb : OkB b) (h : a.2.length = b.2.length) (hl : (joinH a b).length ≤ 400) : OkB (joinH a b, joinS a b) := by
  refine ⟨by rw [joinS_len h]; exact ha.wide, hl, fun x hx => ?_, fun t ht => ?_, joinH_rise ha hb⟩
  · obtain ⟨k, hk⟩ := List.getElem?_of_mem hx
    show 0 ≤ x ∧ x ≤ 1099511627776
    unfold joinS at hk
    rw [List.getElem?_zipWith] at hk
    cases e1 : a.2[k]? with
    | none => rw [e1] at hk; cases hk
    | some y =>
      cases e2 : b.2[k]? with
      | none => rw [e1, e2] at hk; cases hk
      | some z =>
        rw [e1, e2] at hk
        injection hk with hk
        have h1 := ha.saw y (List.mem_of_getElem? e1)
        have h2 := hb.saw z (List.mem_of_getElem? e2)
        omega
  · rw [joinH_mem] at ht
    have key : (0 ≤ t.1 ∧ t.1 < (a.2.length : Int) ∧ 0 < t.2.1) ∧ (t.2.1 ≤ sawAt a.2 t.1 ∨ t.2.1 ≤ sawAt b.2 t.1) := by
      rcases ht with ⟨k, _⟩ | ⟨k, _⟩ | ⟨k, _⟩
      · have := ha.tags t k; unfold TagIn at this; exact ⟨⟨this.1, this.2.1, this.2.2.1⟩, .inl this.2.2.2⟩
      · have := ha.tags t k; unfold TagIn at this; exact ⟨⟨this.1, this.2.1, this.2.2.1⟩, .inl this.2.2.2⟩
      · have := hb.tags t k; unfold TagIn at this; exact ⟨⟨this.1, by omega, this.2.2.1⟩, .inr this.2.2.2⟩
    refine ⟨key.1.1, ?_, key.1.2.2, ?_⟩
    · show t.1 < ((joinS a b).length : Int)
      rw [joinS_len h]; exact key.1.2.1
    · show t.2.1 ≤ sawAt (joinS a b) t.1
      rw [joinS_at h key.1.1 key.1.2.1]
      omega
theorem joinE_zero {a b : Bg} : joinE a b = 0 ↔ OkB a ∧ OkB b ∧ a.2.length = b.2.length ∧ Apart a b ∧ (joinH a b).length ≤ 400 := by
  unfold joinE
  rw [← conflict_iff]
  constructor
  · intro h
    split at h
    · rename_i h1
      split at h
      · cases h
      · rename_i h2
        split at h
        · cases h
        · exact ⟨okB_iff.1 h1.1, okB_iff.1 h1.2.1, h1.2.2, by simpa using h2, by omega⟩
    · cases h
  · rintro ⟨h1, h2, h3, h4, h5⟩
    rw [if_pos ⟨okB_iff.2 h1, okB_iff.2 h2, h3⟩, if_neg (by rw [h4]; decide), if_neg (by omega)]
theorem joinB_of {a b : Bg} (h : joinE a b = 0) : joinB a b = (joinH a b, joinS a b) := if_pos h

/-! ### The lattice -/
theorem apart_symm {a b : Bg} (h : Apart a b) : Apart b a := fun t ht u hu h1 h2 => (h u hu t ht h1.symm h2.symm).symm
theorem keep_comm {a b : Bg} (t : Tg) : Keep a b t ↔ Keep b a t := by
  unfold Keep
  constructor
  · rintro (h | h | h)
    · exact .inl ⟨h.2, h.1⟩
    · exact .inr (.inr h)
    · exact .inr (.inl h)
  · rintro (h | h | h)
    · exact .inl ⟨h.2, h.1⟩
    · exact .inr (.inr h)
    · exact .inr (.inl h)
theorem joinS_comm {a b : Bg} : joinS a b = joinS b a := by
  unfold joinS
  rw [List.zipWith_comm]
  congr 1
  funext x y
  exact Int.max_comm _ _
theorem join_comm {a b : Bg} (ha : OkB a) (hb : OkB b) : joinH a b = joinH b a := joinH_is ha hb (joinH_rise hb ha) (fun t => by rw [joinH_mem, keep_comm])
theorem joinE_comm {a b : Bg} (h : joinE a b = 0) : joinE b a = 0 := by
  obtain ⟨h1, h2, h3, h4, h5⟩ := joinE_zero.1 h
  exact joinE_zero.2 ⟨h2, h1, h3.symm, apart_symm h4, by rw [join_comm h2 h1]; exact h5⟩
theorem join_self {a : Bg} (ha : OkB a) : joinH a a = a.1 := joinH_is ha ha ha.rise (fun t => by
  unfold Keep
  constructor
  · intro h; exact .inl ⟨h, h⟩
  · rintro (h | h | h) <;> exact h.1)
theorem joinS_self (a : Bg) : joinS a a = a.2 := by
  unfold joinS
  induction a.2 with
  | nil => rfl
  | cons x l ih => rw [List.zipWith_cons_cons, ih, Int.max_self]
theorem self_apart {a : Bg} (ha : OkB a) : Apart a a := fun t ht u hu h1 h2 => by rw [rise_key ha.rise ht hu h1 h2]
theorem joinE_self {a : Bg} (ha : OkB a) : joinE a a = 0 := joinE_zero.2 ⟨ha, ha, rfl, self_apart ha, by rw [join_self ha]; exact ha.many⟩
/-- A tag's number is at most what its bag has seen. -/
theorem seen {a : Bg} (ha : OkB a) {t : Tg} (h : t ∈ a.1) : ¬ sawAt a.2 t.1 < t.2.1 := by have := (ha.tags t h).2.2.2; omega
theorem keep_in {a b : Bg} {t : Tg} (h : Keep a b t) : t ∈ a.1 ∨ t ∈ b.1 := by
  rcases h with h | h | h
  · exact .inl h.1
  · exact .inl h.1
  · exact .inr h.1
theorem assoc_prop {α β γ A B C : Prop} (sa : α → ¬ A) (sb : β → ¬ B) (sc : γ → ¬ C) :
    ((α ∧ β ∨ α ∧ B ∨ β ∧ A) ∧ γ ∨ (α ∧ β ∨ α ∧ B ∨ β ∧ A) ∧ C ∨ γ ∧ A ∧ B) ↔ (α ∧ (β ∧ γ ∨ β ∧ C ∨ γ ∧ B) ∨ α ∧ B ∧ C ∨ (β ∧ γ ∨ β ∧ C ∨ γ ∧ B) ∧ A) := by
  by_cases α <;> by_cases β <;> by_cases γ <;> by_cases A <;> by_cases B <;> by_cases C <;> simp_all
theorem keep_assoc {a b c : Bg} (ha : OkB a) (hb : OkB b) (hc : OkB c) (h1 : a.2.length = b.2.length) (h2 : b.2.length = c.2.length) (t : Tg) :
    Keep (joinH a b, joinS a b) c t ↔ Keep a (joinH b c, joinS b c) t := by
  by_cases hin : t ∈ a.1 ∨ t ∈ b.1 ∨ t ∈ c.1
  · have hr : 0 ≤ t.1 ∧ t.1 < (a.2.length : Int) := by
      rcases hin with h | h | h
      · have := ha.tags t h; exact ⟨this.1, this.2.1⟩
      · have := hb.tags t h; exact ⟨this.1, by have := this.2.1; omega⟩
      · have := hc.tags t h; exact ⟨this.1, by have := this.2.1; omega⟩
    have e1 : sawAt (joinS a b) t.1 = max (sawAt a.2 t.1) (sawAt b.2 t.1) := joinS_at h1 hr.1 hr.2
    have e2 : sawAt (joinS b c) t.1 = max (sawAt b.2 t.1) (sawAt c.2 t.1) := joinS_at h2 hr.1 (by omega)
    have sa := fun h => seen (t := t) ha h
    have sb := fun h => seen (t := t) hb h
    have sc := fun h => seen (t := t) hc h
    have m1 : t ∈ (joinH a b, joinS a b).1 ↔ Keep a b t := joinH_mem t
    have m2 : t ∈ (joinH b c, joinS b c).1 ↔ Keep b c t := joinH_mem t
    unfold Keep at *
    rw [m1, m2]
    simp only [e1, e2]
    have f1 : (max (sawAt a.2 t.1) (sawAt b.2 t.1) < t.2.1) ↔ (sawAt a.2 t.1 < t.2.1 ∧ sawAt b.2 t.1 < t.2.1) := by omega
    have f2 : (max (sawAt b.2 t.1) (sawAt c.2 t.1) < t.2.1) ↔ (sawAt b.2 t.1 < t.2.1 ∧ sawAt c.2 t.1 < t.2.1) := by omega
    rw [f1, f2]
    exact assoc_prop sa sb sc
  · constructor
    · intro h
      rcases keep_in h with h | h
      · have := keep_in ((joinH_mem t).1 h)
        exact absurd (by rcases this with h | h <;> simp [h]) hin
      · exact absurd (.inr (.inr h)) hin
    · intro h
      rcases keep_in h with h | h
      · exact absurd (.inl h) hin
      · have := keep_in ((joinH_mem t).1 h)
        exact absurd (by rcases this with h | h <;> simp [h]) hin
theorem joinS_assoc {a b c : Bg} : joinS (joinH a b, joinS a b) c = joinS a (joinH b c, joinS b c) := by
  unfold joinS
  show List.zipWith max (List.zipWith max a.2 b.2) c.2 = List.zipWith max a.2 (List.zipWith max b.2 c.2)
  generalize a.2 = x
  generalize b.2 = y
  generalize c.2 = z
  induction x generalizing y z with
  | nil => simp
  | cons p x ih =>
    cases y with
    | nil => simp
    | cons q y =>
      cases z with
      | nil => simp
      | cons r z => simp only [List.zipWith_cons_cons]; rw [ih, Int.max_assoc]
end Go.Proofs.Ythebilmeehnkpaa.Ors
