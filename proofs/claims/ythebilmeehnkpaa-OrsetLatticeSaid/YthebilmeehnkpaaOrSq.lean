/-
  Package orset, pure: a row without its repetitions; what the program's Join does.
-/
import Derived.Test.YthebilmeehnkpaaOrPure2
namespace Go.Proofs.Ythebilmeehnkpaa.Ors
set_option linter.unusedVariables false
set_option linter.unusedSimpArgs false
open Gt

/-! ### A row without its repetitions -/
def sqStep (a : List Tg) (x : Tg) : List Tg := if a.getLast? = some x then a else a ++ [x]
def sqs (l : List Tg) : List Tg := l.foldl sqStep []
theorem sqs_snoc (l : List Tg) (x : Tg) : sqs (l ++ [x]) = sqStep (sqs l) x := by unfold sqs; rw [List.foldl_append]; rfl
theorem sq_last (a : List Tg) (x : Tg) : (sqStep a x).getLast? = some x := by
  unfold sqStep
  split
  · assumption
  · simp
theorem snoc_ind {P : List Tg → Prop} (h0 : P []) (h1 : ∀ l x, P l → P (l ++ [x])) : ∀ l, P l := fun l => by
  have : ∀ (n : Nat) (l : List Tg), l.length = n → P l := by
    intro n
    induction n with
    | zero => intro l hl; rw [List.eq_nil_of_length_eq_zero hl]; exact h0
    | succ n ih =>
      intro l hl
      have hne : l ≠ [] := by intro e; rw [e] at hl; simp at hl
      rw [← List.dropLast_concat_getLast hne]
      exact h1 _ _ (ih _ (by rw [List.length_dropLast]; omega))
  exact this _ l rfl
theorem sqs_last : ∀ l : List Tg, (sqs l).getLast? = l.getLast? := snoc_ind rfl (fun l x _ => by rw [sqs_snoc, sq_last]; simp)
theorem sqs_take {l : List Tg} {k : Nat} {x : Tg} (h : l[k]? = some x) : sqs (l.take (k + 1)) = sqStep (sqs (l.take k)) x := by
  rw [List.take_add_one, h]; exact sqs_snoc _ _
theorem take_last {l : List Tg} {k : Nat} {y : Tg} (h : l[k]? = some y) : (l.take (k + 1)).getLast? = some y := by
  rw [List.take_add_one, h]; simp
theorem sqs_same {l : List Tg} {k : Nat} {x : Tg} (h1 : l[k]? = some x) (h2 : l[k + 1]? = some x) : sqs (l.take (k + 1 + 1)) = sqs (l.take (k + 1)) := by
  rw [sqs_take h2]
  unfold sqStep
  rw [if_pos (by rw [sqs_last]; exact take_last h1)]
theorem sqs_more {l : List Tg} {k : Nat} {x y : Tg} (h1 : l[k]? = some y) (h2 : l[k + 1]? = some x) (hne : ¬ x = y) : sqs (l.take (k + 1 + 1)) = sqs (l.take (k + 1)) ++ [x] := by
  rw [sqs_take h2]
  unfold sqStep
  rw [if_neg (by rw [sqs_last, take_last h1]; intro e; injection e with e; exact hne e.symm)]
theorem sqs_one {l : List Tg} (h : 0 < l.length) : sqs (l.take 1) = l.take 1 := by
  cases l with
  | nil => simp at h
  | cons x l => rfl
theorem sqs_len (l : List Tg) : (sqs l).length ≤ l.length := by
  refine snoc_ind (P := fun l => (sqs l).length ≤ l.length) (Nat.le_refl _) (fun l x ih => ?_) l
  rw [sqs_snoc]
  unfold sqStep
  split
  · simp; omega
  · simp; omega
theorem sqs_mem (t : Tg) (l : List Tg) : t ∈ sqs l ↔ t ∈ l := by
  refine snoc_ind (P := fun l => t ∈ sqs l ↔ t ∈ l) (by simp [sqs]) (fun l x ih => ?_) l
  rw [sqs_snoc, List.mem_append, List.mem_singleton, ← ih]
  unfold sqStep
  split
  · rename_i h
    have hx := List.mem_of_getLast? h
    constructor
    · exact .inl
    · rintro (h | rfl)
      · exact h
      · exact hx
  · rw [List.mem_append, List.mem_singleton]
theorem tle_iff {a b : Tg} : tle a b = true ↔ a.1 < b.1 ∨ a.1 = b.1 ∧ a.2.1 ≤ b.2.1 := by
  unfold tle
  simp only [Bool.not_eq_true', ← Bool.not_eq_true, klt_iff, Klt]
  omega
/-- Sorted, and one key means one tag: the row rises. -/
theorem sqs_rise (l : List Tg) (h1 : l.Pairwise (fun a b => tle a b = true)) (h2 : ∀ t ∈ l, ∀ u ∈ l, t.1 = u.1 → t.2.1 = u.2.1 → t = u) : (sqs l).Pairwise Klt := by
  revert h1 h2
  refine snoc_ind (P := fun l => l.Pairwise (fun a b => tle a b = true) → (∀ t ∈ l, ∀ u ∈ l, t.1 = u.1 → t.2.1 = u.2.1 → t = u) → (sqs l).Pairwise Klt) (fun _ _ => by simp [sqs]) (fun l x ih h1 h2 => ?_) l
  rw [List.pairwise_append] at h1
  have ih' := ih h1.1 (fun t ht u hu => h2 t (List.mem_append_left _ ht) u (List.mem_append_left _ hu))
  rw [sqs_snoc]
  unfold sqStep
  split
  · exact ih'
  · rename_i hne
    rw [List.pairwise_append]
    refine ⟨ih', by simp, fun t ht y hy => ?_⟩
    rw [List.mem_singleton] at hy
    subst hy
    have htl := (sqs_mem t l).1 ht
    have hty := tle_iff.1 (h1.2.2 t htl y (by simp))
    rcases hty with h | ⟨h3, h4⟩
    · exact .inl h
    · rcases Int.lt_or_eq_of_le h4 with h | h
      · exact .inr ⟨h3, h⟩
      · exfalso
        have e := h2 t (List.mem_append_left _ htl) y (by simp) h3 h
        subst e
        refine hne ?_
        rw [sqs_last]
        have hnl : l ≠ [] := by intro e; rw [e] at htl; simp at htl
        obtain ⟨u, hu⟩ : ∃ u, l.getLast? = some u := ⟨_, List.getLast?_eq_some_getLast hnl⟩
        have hul := List.mem_of_getLast? hu
        have huy := tle_iff.1 (h1.2.2 u hul t (by simp))
        have htu : t = u ∨ tle t u = true := by
          rw [← List.dropLast_concat_getLast hnl] at h1 htl
          have eu : l.getLast hnl = u := by rw [List.getLast?_eq_some_getLast hnl] at hu; injection hu
          rw [eu] at h1 htl
          rcases List.mem_append.1 htl with h | h
          · exact .inr ((List.pairwise_append.1 h1.1).2.2 t h u (by simp))
          · exact .inl (by simpa using h)
        rw [hu]
        rcases htu with h | h
        · rw [h]
        · rw [tle_iff] at h
          rw [h2 t (by simp) u (List.mem_append_left _ hul) (by omega) (by omega)]

/-! ### What the program keeps -/
def sameKey (t u : Tg) : Bool := decide (u.1 = t.1) && decide (u.2.1 = t.2.1)
def hasKey (b : Bg) (t : Tg) : Bool := b.1.any (sameKey t)
def goneIn (b : Bg) (t : Tg) : Bool := !hasKey b t && decide (t.2.1 ≤ sawAt b.2 t.1)
def other (b : Bg) (t : Tg) : Bool := b.1.any (fun u => sameKey t u && !decide (u.2.2 = t.2.2))
theorem any_congr {α : Type} {p q : α → Bool} : ∀ {l : List α}, (∀ x ∈ l, p x = q x) → l.any p = l.any q
  | [], _ => rfl
  | x :: l, h => by rw [List.any_cons, List.any_cons, h x (by simp), any_congr (fun y hy => h y (List.mem_cons_of_mem _ hy))]
theorem other_any (a b : Bg) : a.1.any (other b) = conflict a b := by
  unfold conflict
  refine any_congr fun t _ => ?_
  unfold other
  refine any_congr fun u _ => ?_
  unfold sameKey
  by_cases h1 : t.1 = u.1 <;> by_cases h2 : t.2.1 = u.2.1 <;> by_cases h3 : t.2.2 = u.2.2 <;> simp [h1, h2, h3, eq_comm] <;> simp_all [eq_comm]
theorem hasKey_iff {a b : Bg} (hb : OkB b) {t : Tg} (h : ∀ u ∈ b.1, t.1 = u.1 → t.2.1 = u.2.1 → t.2.2 = u.2.2) : hasKey b t = true ↔ t ∈ b.1 := by
  unfold hasKey
  rw [List.any_eq_true]
  constructor
  · rintro ⟨u, hu, hk⟩
    unfold sameKey at hk
    rw [Bool.and_eq_true, decide_eq_true_eq, decide_eq_true_eq] at hk
    have := h u hu hk.1.symm hk.2.symm
    obtain ⟨t1, t2, t3⟩ := t
    obtain ⟨u1, u2, u3⟩ := u
    simp only at hk this
    obtain ⟨rfl, rfl⟩ := hk
    subst this
    exact hu
  · intro ht
    exact ⟨t, ht, by unfold sameKey; simp⟩
def goneL (a b : Bg) (t : Tg) : Bool := goneIn a t || goneIn b t
theorem joined {a b : Bg} (ha : OkB a) (hb : OkB b) (hap : Apart a b) {d : List Tg} (hp : (a.1 ++ b.1).Perm d) (hs : d.Pairwise (fun x y => tle x y = true)) : (sqs d).filter (fun t => !goneL a b t) = joinH a b := by
  have hm : ∀ t, t ∈ d ↔ t ∈ a.1 ∨ t ∈ b.1 := fun t => by rw [← hp.mem_iff, List.mem_append]
  have hab : ∀ t, t ∈ a.1 ∨ t ∈ b.1 → ∀ u, u ∈ a.1 ∨ u ∈ b.1 → t.1 = u.1 → t.2.1 = u.2.1 → t = u := fun t ht u hu h1 h2 => by
    have e : ∀ {x y : Tg}, x.1 = y.1 → x.2.1 = y.2.1 → x.2.2 = y.2.2 → x = y := fun {x y} h1 h2 h3 => Prod.ext h1 (Prod.ext h2 h3)
    rcases ht with ht | ht <;> rcases hu with hu | hu
    · exact rise_key ha.rise ht hu h1 h2
    · exact e h1 h2 (hap t ht u hu h1 h2)
    · exact e h1 h2 (hap u hu t ht h1.symm h2.symm).symm
    · exact rise_key hb.rise ht hu h1 h2
  refine (joinH_is ha hb ((sqs_rise d hs (fun t ht u hu => hab t ((hm t).1 ht) u ((hm u).1 hu))).filter _) (fun t => ?_)).symm
  rw [List.mem_filter, sqs_mem, hm]
  by_cases hin : t ∈ a.1 ∨ t ∈ b.1
  · have ka := hasKey_iff (a := a) ha (t := t) (fun u hu h1 h2 => by rw [hab t hin u (.inl hu) h1 h2])
    have kb := hasKey_iff (a := b) hb (t := t) (fun u hu h1 h2 => by rw [hab t hin u (.inr hu) h1 h2])
    have sa := fun h => seen (t := t) ha h
    have sb := fun h => seen (t := t) hb h
    have eq : (!goneL a b t) = true ↔ (t ∈ a.1 ∨ sawAt a.2 t.1 < t.2.1) ∧ (t ∈ b.1 ∨ sawAt b.2 t.1 < t.2.1) := by
      unfold goneL goneIn
      rw [← ka, ← kb]
      cases hasKey a t <;> cases hasKey b t <;> simp
    rw [eq]
    unfold Keep
    constructor
    · rintro ⟨_, h1 | h1, h2 | h2⟩
      · exact .inl ⟨h1, h2⟩
      · exact .inr (.inl ⟨h1, h2⟩)
      · exact .inr (.inr ⟨h2, h1⟩)
      · rcases hin with h | h
        · exact absurd h1 (sa h)
        · exact absurd h2 (sb h)
    · rintro (⟨h1, h2⟩ | ⟨h1, h2⟩ | ⟨h1, h2⟩)
      · exact ⟨.inl h1, .inl h1, .inl h2⟩
      · exact ⟨.inl h1, .inl h1, .inr h2⟩
      · exact ⟨.inr h1, .inr h2, .inl h1⟩
  · constructor
    · rintro ⟨h, _⟩; exact absurd h hin
    · intro h
      exact absurd (keep_in h) hin
end Go.Proofs.Ythebilmeehnkpaa.Ors
