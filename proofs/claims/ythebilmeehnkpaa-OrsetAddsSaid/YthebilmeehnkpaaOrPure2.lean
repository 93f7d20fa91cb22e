/-
  Package orset, pure: put, drop, all; what the laws say of them.
-/
import Derived.Test.YthebilmeehnkpaaOrPure
import Derived.Test.YthebilmeehnkpaaGSetP
namespace Go.Proofs.Ythebilmeehnkpaa.Ors
set_option linter.unusedVariables false
set_option linter.unusedSimpArgs false
open Gt

def putE (b : Bg) (who : Int) : Int := if okB b = false then 1 else if who < 0 ∨ (b.2.length : Int) ≤ who then 2 else if sawAt b.2 who = 1099511627776 ∨ b.1.length = 400 then 4 else 0
def bumpS (s : List Int) (who : Int) : List Int := s.set who.toNat (sawAt s who + 1)
def newTag (b : Bg) (who elem : Int) : Tg := (who, sawAt b.2 who + 1, elem)
def upTo (who : Int) (t : Tg) : Bool := decide (t.1 ≤ who)
def putH (b : Bg) (who elem : Int) : List Tg := b.1.takeWhile (upTo who) ++ newTag b who elem :: b.1.dropWhile (upTo who)
def putB (b : Bg) (who elem : Int) : Bg := if putE b who = 0 then (putH b who elem, bumpS b.2 who) else ([], [])
def isNot (elem : Int) (t : Tg) : Bool := decide (t.2.2 ≠ elem)
def dropB (b : Bg) (elem : Int) : Bg := (b.1.filter (isNot elem), b.2)
def okE (b : Bg) : Int := if okB b = true then 0 else 1
def elems (b : Bg) : List Int := setOf (b.1.map (fun t => t.2.2))
def newE (many : Int) : Int := if many < 1 ∨ 16 < many then 2 else 0
def newB (many : Int) : Bg := if newE many = 0 then ([], List.replicate many.toNat 0) else ([], [])

/-! ### Put -/
structure Puts (b : Bg) (k : Nat) : Prop where
  ok : OkB b
  lt : k < b.2.length
  full : sawAt b.2 k < 1099511627776
  room : b.1.length < 400
theorem saw_get {s : List Int} {k : Nat} (h : k < s.length) : s[k]? = some (sawAt s k) := by
  unfold sawAt
  rw [Int.toNat_natCast, List.getD_eq_getElem?_getD, List.getElem?_eq_getElem h]; rfl
theorem putE_zero {b : Bg} {who : Int} (h : putE b who = 0) : ∃ k : Nat, who = (k : Int) ∧ Puts b k := by
  unfold putE at h
  split at h
  · cases h
  · rename_i h1
    split at h
    · cases h
    · rename_i h2
      split at h
      · cases h
      · rename_i h3
        have hb : OkB b := okB_iff.1 (by simpa using h1)
        obtain ⟨k, rfl⟩ : ∃ k : Nat, who = (k : Int) := ⟨who.toNat, by omega⟩
        have hk : k < b.2.length := by omega
        have := hb.saw _ (List.mem_of_getElem? (saw_get hk))
        have hm := hb.many
        exact ⟨k, rfl, hb, hk, by omega, by omega⟩
theorem put_mem {b : Bg} {who elem : Int} {t : Tg} : t ∈ putH b who elem ↔ t ∈ b.1 ∨ t = newTag b who elem := by
  have h : b.1 = b.1.takeWhile (upTo who) ++ b.1.dropWhile (upTo who) := (List.takeWhile_append_dropWhile).symm
  unfold putH
  rw [List.mem_append, List.mem_cons]
  constructor
  · rintro (h1 | h1 | h1)
    · exact .inl (by rw [h]; exact List.mem_append_left _ h1)
    · exact .inr h1
    · exact .inl (by rw [h]; exact List.mem_append_right _ h1)
  · rintro (h1 | h1)
    · rw [h] at h1
      rcases List.mem_append.1 h1 with h1 | h1
      · exact .inl h1
      · exact .inr (.inr h1)
    · exact .inr (.inl h1)
theorem drop_while_gt {who : Int} : ∀ {l : List Tg}, l.Pairwise Klt → ∀ t ∈ l.dropWhile (upTo who), who < t.1
  | [], _, t, ht => by simp at ht
  | x :: l, h, t, ht => by
    rw [List.pairwise_cons] at h
    rw [List.dropWhile_cons] at ht
    split at ht
    · exact drop_while_gt h.2 t ht
    · rename_i hx
      unfold upTo at hx
      rw [decide_eq_true_eq] at hx
      rcases List.mem_cons.1 ht with rfl | ht
      · omega
      · have := h.1 t ht; unfold Klt at this; omega
theorem take_while_le {who : Int} : ∀ {l : List Tg}, ∀ t ∈ l.takeWhile (upTo who), t.1 ≤ who
  | [], t, ht => by simp at ht
  | x :: l, t, ht => by
    rw [List.takeWhile_cons] at ht
    split at ht
    · rename_i hx
      rcases List.mem_cons.1 ht with rfl | ht
      · unfold upTo at hx; rwa [decide_eq_true_eq] at hx
      · exact take_while_le t ht
    · simp at ht
theorem put_rise {b : Bg} (hb : OkB b) (who elem : Int) : (putH b who elem).Pairwise Klt := by
  have h : b.1 = b.1.takeWhile (upTo who) ++ b.1.dropWhile (upTo who) := (List.takeWhile_append_dropWhile).symm
  have hr := hb.rise
  rw [h, List.pairwise_append] at hr
  unfold putH
  rw [List.pairwise_append, List.pairwise_cons]
  have hgt := drop_while_gt (who := who) hb.rise
  have hlt : ∀ t ∈ b.1.takeWhile (upTo who), Klt t (newTag b who elem) := fun t ht => by
    have h1 := take_while_le t ht
    have h2 := (hb.tags t (by rw [h]; exact List.mem_append_left _ ht)).2.2.2
    unfold Klt newTag
    simp only
    by_cases e : t.1 = who
    · rw [e] at h2; omega
    · omega
  refine ⟨hr.1, ⟨fun t ht => ?_, hr.2.1⟩, fun x hx y hy => ?_⟩
  · have := hgt t ht
    unfold Klt newTag
    simp only
    omega
  · rcases List.mem_cons.1 hy with rfl | hy
    · exact hlt x hx
    · exact hr.2.2 x hx y hy
theorem put_is {b : Bg} (hb : OkB b) {who elem : Int} {l : List Tg} (h1 : l.Pairwise Klt) (h2 : ∀ t, t ∈ l ↔ t ∈ b.1 ∨ t = newTag b who elem) : putH b who elem = l :=
  rise_unique (put_rise hb who elem) h1 (fun t => by rw [put_mem, h2])
theorem put_len (b : Bg) (who elem : Int) : (putH b who elem).length = b.1.length + 1 := by
  have h : b.1.length = (b.1.takeWhile (upTo who)).length + (b.1.dropWhile (upTo who)).length := by
    rw [← List.length_append, List.takeWhile_append_dropWhile]
  unfold putH
  rw [List.length_append, List.length_cons]
  omega
theorem bump_len (s : List Int) (who : Int) : (bumpS s who).length = s.length := by unfold bumpS; rw [List.length_set]
theorem bump_at {s : List Int} {k : Nat} (hk : k < s.length) {w : Int} (hw : 0 ≤ w) : sawAt (bumpS s k) w = if w = (k : Int) then sawAt s k + 1 else sawAt s w := by
  obtain ⟨j, rfl⟩ : ∃ j : Nat, w = (j : Int) := ⟨w.toNat, by omega⟩
  unfold sawAt bumpS
  simp only [Int.toNat_natCast, List.getD_eq_getElem?_getD]
  by_cases e : j = k
  · subst e
    rw [if_pos rfl, List.getElem?_set_self hk]
    simp only [Option.getD_some]
    unfold sawAt
    rw [Int.toNat_natCast, List.getD_eq_getElem?_getD]
  · rw [if_neg (by omega), List.getElem?_set_ne (fun h => e h.symm)]
theorem put_ok {b : Bg} {k : Nat} (h : Puts b k) (elem : Int) : OkB (putH b k elem, bumpS b.2 k) := by
  have hs := h.ok.saw _ (List.mem_of_getElem? (saw_get h.lt))
  have hf := h.full
  refine ⟨by rw [bump_len]; exact h.ok.wide, by show (putH b k elem).length ≤ 400; rw [put_len]; have := h.room; omega, fun x hx => ?_, fun t ht => ?_, put_rise h.ok _ _⟩
  · have hx' : x ∈ bumpS b.2 k := hx
    unfold bumpS at hx'
    rcases List.mem_or_eq_of_mem_set hx' with h1 | h1
    · exact h.ok.saw x h1
    · omega
  · have ht' := put_mem.1 ht
    show TagIn (bumpS b.2 k) t
    unfold TagIn
    rw [bump_len]
    rcases ht' with h1 | h1
    · have := h.ok.tags t h1
      unfold TagIn at this
      refine ⟨this.1, this.2.1, this.2.2.1, ?_⟩
      rw [bump_at h.lt this.1]
      split
      · rename_i e; rw [e] at this; omega
      · exact this.2.2.2
    · subst h1
      unfold newTag
      simp only
      have := h.lt
      refine ⟨by omega, by omega, by omega, ?_⟩
      rw [bump_at h.lt (by omega), if_pos rfl]
      exact Int.le_refl _
theorem drop_ok {b : Bg} (h : OkB b) (elem : Int) : OkB (dropB b elem) :=
  ⟨h.wide, Nat.le_trans (List.length_filter_le _ _) h.many, h.saw, fun t ht => h.tags t (List.mem_filter.1 ht).1, h.rise.filter _⟩
theorem drop_mem {b : Bg} {elem : Int} {t : Tg} : t ∈ (dropB b elem).1 ↔ t ∈ b.1 ∧ t.2.2 ≠ elem := by
  unfold dropB isNot
  rw [List.mem_filter, decide_eq_true_eq]
theorem elems_mem {b : Bg} {x : Int} : x ∈ elems b ↔ ∃ t ∈ b.1, t.2.2 = x := by
  unfold elems
  rw [mem_setOf, List.mem_map]

/-! ### Who puts wins -/
theorem adds_keep {b : Bg} {k : Nat} (h : Puts b k) (elem : Int) (t : Tg) : Keep (dropB b elem) (putH b k elem, bumpS b.2 k) t ↔ (t ∈ b.1 ∧ t.2.2 ≠ elem) ∨ t = newTag b k elem := by
  have pm : t ∈ (putH b k elem, bumpS b.2 k).1 ↔ t ∈ b.1 ∨ t = newTag b k elem := put_mem
  have sp := fun hh => seen (t := t) (put_ok h elem) hh
  unfold Keep
  rw [drop_mem, pm]
  constructor
  · rintro (⟨h1, _⟩ | ⟨h1, _⟩ | ⟨h1, h2⟩)
    · exact .inl h1
    · exact .inl h1
    · rcases h1 with h1 | h1
      · exact absurd h2 (seen h.ok h1)
      · exact .inr h1
  · rintro (h1 | h1)
    · exact .inl ⟨h1, .inl h1.1⟩
    · subst h1
      refine .inr (.inr ⟨.inr rfl, ?_⟩)
      show sawAt b.2 k < sawAt b.2 k + 1
      omega
theorem adds_apart {b : Bg} {k : Nat} (h : Puts b k) (elem : Int) : Apart (dropB b elem) (putH b k elem, bumpS b.2 k) := fun t ht u hu h1 h2 => by
  have ht' := (drop_mem.1 ht).1
  have ht2 : t ∈ putH b k elem := put_mem.2 (.inl ht')
  rw [rise_key (put_rise h.ok k elem) ht2 hu h1 h2]
theorem adds_len {b : Bg} {k : Nat} (h : Puts b k) (elem : Int) : (joinH (dropB b elem) (putH b k elem, bumpS b.2 k)).length ≤ 400 := by
  have h1 := rise_len (k := putH b k elem) (joinH_rise (drop_ok h.ok elem) (put_ok h elem)) (fun t ht => by
    rw [joinH_mem, adds_keep h] at ht
    exact put_mem.2 (ht.elim (fun h => .inl h.1) .inr))
  have h2 := put_len b k elem
  have := h.room
  omega
theorem adds_ok {b : Bg} {k : Nat} (h : Puts b k) (elem : Int) : joinE (dropB b elem) (putH b k elem, bumpS b.2 k) = 0 :=
  joinE_zero.2 ⟨drop_ok h.ok elem, put_ok h elem, by show b.2.length = (bumpS b.2 k).length; rw [bump_len], adds_apart h elem, adds_len h elem⟩
def cnt (l : List Tg) (elem : Int) : Nat := (l.filter (fun t => decide (t.2.2 = elem))).length
theorem cnt_snoc (l : List Tg) (t : Tg) (elem : Int) : cnt (l ++ [t]) elem = cnt l elem + (if t.2.2 = elem then 1 else 0) := by
  unfold cnt
  rw [List.filter_append, List.length_append]
  by_cases h : t.2.2 = elem <;> simp [h]
theorem adds_one {b : Bg} {k : Nat} (h : Puts b k) (elem : Int) : cnt (joinH (dropB b elem) (putH b k elem, bumpS b.2 k)) elem = 1 := by
  have hr := joinH_rise (drop_ok h.ok elem) (put_ok h elem)
  unfold cnt
  rw [rise_unique (k := [newTag b k elem]) (hr.filter _) (by simp) (fun t => by
    rw [List.mem_filter, joinH_mem, adds_keep h, decide_eq_true_eq, List.mem_singleton]
    constructor
    · rintro ⟨h1 | h1, h2⟩
      · exact absurd h2 h1.2
      · exact h1
    · rintro rfl
      exact ⟨.inr rfl, rfl⟩)]
  rfl
theorem adds_in {b : Bg} {k : Nat} (h : Puts b k) (elem : Int) : elem ∈ elems (joinH (dropB b elem) (putH b k elem, bumpS b.2 k), joinS (dropB b elem) (putH b k elem, bumpS b.2 k)) :=
  elems_mem.2 ⟨newTag b k elem, (joinH_mem _).2 ((adds_keep h elem _).2 (.inr rfl)), rfl⟩

/-! ### What was dropped stays dropped -/
theorem drops_h {b : Bg} (h : OkB b) (elem : Int) : joinH (dropB b elem) b = (dropB b elem).1 := joinH_is (drop_ok h elem) h (drop_ok h elem).rise (fun t => by
  unfold Keep
  constructor
  · intro h1; exact .inl ⟨h1, (drop_mem.1 h1).1⟩
  · rintro (h1 | h1 | h1)
    · exact h1.1
    · exact h1.1
    · exact absurd h1.2 (seen h h1.1))
theorem drops_s (b : Bg) (elem : Int) : joinS (dropB b elem) b = b.2 := joinS_self b
theorem drops_ok {b : Bg} (h : OkB b) (elem : Int) : joinE (dropB b elem) b = 0 :=
  joinE_zero.2 ⟨drop_ok h elem, h, rfl, fun t ht u hu h1 h2 => by rw [rise_key h.rise (drop_mem.1 ht).1 hu h1 h2], by rw [drops_h h]; exact (drop_ok h elem).many⟩
theorem drops_all (b : Bg) (elem : Int) : elems (dropB b elem) = (elems b).filter (fun x => decide (x ≠ elem)) := by
  unfold elems
  rw [← setOf_filter]
  congr 1
  unfold dropB isNot
  rw [List.filter_map]
  rfl
theorem elems_len (b : Bg) : (elems b).length ≤ b.1.length := by
  unfold elems
  have := setOf_len (b.1.map (fun t => t.2.2))
  rwa [List.length_map] at this

/-! ### What was put is there -/
theorem put_in (b : Bg) (who elem : Int) (s : List Int) : elem ∈ elems (putH b who elem, s) := elems_mem.2 ⟨newTag b who elem, put_mem.2 (.inr rfl), rfl⟩
theorem drop_out (b : Bg) (elem : Int) : elem ∉ elems (dropB b elem) := fun h => by
  obtain ⟨t, ht, e⟩ := elems_mem.1 h
  exact (drop_mem.1 ht).2 e
theorem okE_zero {b : Bg} : okE b = 0 ↔ OkB b := by
  unfold okE
  rw [← okB_iff]
  cases okB b <;> simp
end Go.Proofs.Ythebilmeehnkpaa.Ors
