/-
  Package orset, pure: what OrsetPuts gathers.
-/
import Derived.Test.YthebilmeehnkpaaOrIns
import Derived.Test.YthebilmeehnkpaaOrAddsW
import Derived.Test.YthebilmeehnkpaaGMap
namespace Go.Proofs.Ythebilmeehnkpaa.Ors
set_option linter.unusedVariables false
set_option linter.unusedSimpArgs false
open Mem Gt

def kset (l : List Int) : List Int := l.foldl addK []
theorem kset_snoc (l : List Int) (x : Int) : kset (l ++ [x]) = addK (kset l) x := by unfold kset; rw [List.foldl_append]; rfl
theorem mem_foldK {y : Int} : ∀ (l ks : List Int), y ∈ l.foldl addK ks ↔ y ∈ ks ∨ y ∈ l
  | [], ks => by simp
  | x :: l, ks => by
    rw [List.foldl_cons, mem_foldK l, mem_addK, List.mem_cons]
    constructor
    · rintro ((h | h) | h)
      · exact .inr (.inl h)
      · exact .inl h
      · exact .inr (.inr h)
    · rintro (h | h | h)
      · exact .inl (.inr h)
      · exact .inl (.inl h)
      · exact .inr h
theorem mem_kset {y : Int} {l : List Int} : y ∈ kset l ↔ y ∈ l := by unfold kset; rw [mem_foldK]; simp
theorem addK_nodup {ks : List Int} {x : Int} (h : ks.Nodup) : (addK ks x).Nodup := by
  unfold addK
  split
  · exact h
  · rename_i hx
    refine List.nodup_append.2 ⟨h, by simp, fun a ha b hb e => ?_⟩
    simp at hb
    subst hb e
    exact hx ha
theorem foldK_nodup : ∀ (l ks : List Int), ks.Nodup → (l.foldl addK ks).Nodup
  | [], ks, h => h
  | x :: l, ks, h => foldK_nodup l _ (addK_nodup h)
theorem kset_len (l : List Int) : (kset l).length = (setOf l).length := by
  have h1 : (kset l).Nodup := foldK_nodup l [] List.nodup_nil
  have h2 : (setOf l).Nodup := (isSet_of l).1.imp (fun {a b} h e => by subst e; omega)
  have a := nodup_len h1 (k := setOf l) (fun t ht => mem_setOf.2 (mem_kset.1 ht))
  have b := nodup_len h2 (k := kset l) (fun t ht => mem_kset.2 (mem_setOf.1 ht))
  omega
def els (l : List Tg) : List Int := l.map (fun t => t.2.2)
theorem els_step {l : List Tg} {k : Nat} {t : Tg} (h : l[k]? = some t) : kset (els (l.take (k + 1))) = addK (kset (els (l.take k))) t.2.2 := by
  rw [List.take_add_one, h]; unfold els; rw [List.map_append]; exact kset_snoc _ _
theorem kset_le (l : List Int) : (kset l).length ≤ l.length := by rw [kset_len]; exact setOf_len l
/-- What the map holds: is it there? -/
def inK (ks : List Int) (x : Int) : Value := .bool (decide (x ∈ ks))
theorem inK_step (ks : List Int) (y x : Int) : setI (inK ks) y (.bool true) x = inK (addK ks y) x := by
  unfold setI inK
  split
  · rename_i e; subst e; rw [decide_eq_true (mem_addK.2 (.inl rfl))]
  · rename_i e
    congr 1
    exact decide_eq_decide.2 ⟨fun h => mem_addK.2 (.inr h), fun h => (mem_addK.1 h).resolve_left e⟩
theorem drop_step {l : List Tg} {k : Nat} {t : Tg} {elem : Int} (h : l[k]? = some t) : (l.take (k + 1)).filter (isNot elem) = (l.take k).filter (isNot elem) ++ (if t.2.2 = elem then [] else [t]) := by
  rw [List.take_add_one, h, List.filter_append]
  congr 1
  unfold isNot
  by_cases e : t.2.2 = elem <;> simp [e]
theorem takeWhile_at {α : Type} {p : α → Bool} : ∀ {l : List α} {k : Nat}, (∀ j x, j < k → l[j]? = some x → p x = true) → k ≤ l.length → (∀ x, l[k]? = some x → p x = false) → l.take k = l.takeWhile p ∧ l.drop k = l.dropWhile p
  | [], k, _, hk, _ => by simp at hk; subst hk; simp
  | a :: l, 0, _, _, h => by
    have := h a rfl
    simp [List.takeWhile_cons, List.dropWhile_cons, this]
  | a :: l, k + 1, h1, hk, h => by
    have ha := h1 0 a (by omega) rfl
    obtain ⟨i1, i2⟩ := takeWhile_at (l := l) (k := k) (fun j x hj hx => h1 (j + 1) x (by omega) (by simpa using hx)) (by simpa using hk) (fun x hx => h x (by simpa using hx))
    simp [List.takeWhile_cons, List.dropWhile_cons, ha, i1, i2]
theorem put_ins {b : Bg} {who elem : Int} {k : Nat} (h1 : ∀ j t, j < k → b.1[j]? = some t → t.1 ≤ who) (hk : k ≤ b.1.length) (h2 : ∀ t, b.1[k]? = some t → who < t.1) : insL b.1 k (newTag b who elem) = putH b who elem := by
  obtain ⟨e1, e2⟩ := takeWhile_at (p := upTo who) (fun j t hj ht => decide_eq_true (h1 j t hj ht)) hk (fun t ht => decide_eq_false (by have := h2 t ht; omega))
  unfold insL putH
  rw [e1, e2]
theorem hb_nil (V : World) : HB V none none 0 0 0 0 ([], []) := ⟨rfl, rfl, by simp, by simp, by omega, by omega, Reads.nil, Reads.nil, fun t h => by simp at h⟩
theorem elems_rise (b : Bg) : (elems b).Pairwise (· < ·) := (isSet_of _).1
end Go.Proofs.Ythebilmeehnkpaa.Ors
