/-
  Sets of integers as rising lists (pure).
-/
import Derived.WalkKit
namespace Go.Proofs.Ythebilmeehnkpaa.Gt
set_option linter.unusedVariables false

/-- ks: what is in xs, rising, each once. -/
def IsSet (ks xs : List Int) : Prop := ks.Pairwise (· < ·) ∧ ∀ x, x ∈ ks ↔ x ∈ xs
def insZ (x : Int) : List Int → List Int
  | [] => [x]
  | y :: t => if x < y then x :: y :: t else if x = y then y :: t else y :: insZ x t
def setOf (xs : List Int) : List Int := xs.foldr insZ []
theorem mem_insZ {x z : Int} : ∀ {l : List Int}, z ∈ insZ x l ↔ z = x ∨ z ∈ l
  | [] => by simp [insZ]
  | y :: t => by
    unfold insZ
    split
    · simp
    · split
      · rename_i h; subst h; simp
      · rw [List.mem_cons, mem_insZ, List.mem_cons]
        constructor
        · rintro (h | h | h)
          · exact .inr (.inl h)
          · exact .inl h
          · exact .inr (.inr h)
        · rintro (h | h | h)
          · exact .inr (.inl h)
          · exact .inl h
          · exact .inr (.inr h)
theorem insZ_sorted {x : Int} : ∀ {l : List Int}, l.Pairwise (· < ·) → (insZ x l).Pairwise (· < ·)
  | [], _ => by simp [insZ]
  | y :: t, h => by
    unfold insZ
    split
    · rename_i hx
      rw [List.pairwise_cons]
      refine ⟨fun z hz => ?_, h⟩
      rcases List.mem_cons.1 hz with rfl | hz
      · exact hx
      · have := (List.pairwise_cons.1 h).1 z hz; omega
    · split
      · exact h
      · rename_i h1 h2
        rw [List.pairwise_cons] at h ⊢
        refine ⟨fun z hz => ?_, insZ_sorted h.2⟩
        rcases mem_insZ.1 hz with rfl | hz
        · omega
        · exact h.1 z hz
theorem isSet_of : ∀ xs : List Int, IsSet (setOf xs) xs
  | [] => ⟨by simp [setOf], fun x => by simp [setOf]⟩
  | y :: l => by
    have ih := isSet_of l
    refine ⟨insZ_sorted ih.1, fun x => ?_⟩
    show x ∈ insZ y (setOf l) ↔ _
    rw [mem_insZ, ih.2, List.mem_cons]
theorem isSet_unique {ks js xs ys : List Int} (h1 : IsSet ks xs) (h2 : IsSet js ys) (h : ∀ x, x ∈ xs ↔ x ∈ ys) : ks = js := by
  have nd : ∀ {l : List Int}, l.Pairwise (· < ·) → l.Nodup := fun h => h.imp (fun h e => by omega)
  refine List.Perm.eq_of_pairwise (le := fun a b : Int => a ≤ b) (fun a b _ _ h1 h2 => by omega) (h1.1.imp (fun h => by omega)) (h2.1.imp (fun h => by omega)) ((List.perm_ext_iff_of_nodup (nd h1.1) (nd h2.1)).2 fun x => ?_)
  rw [h1.2, h2.2, h]
theorem setOf_is {ks xs : List Int} (h : IsSet ks xs) : setOf xs = ks := isSet_unique (isSet_of xs) h (fun _ => Iff.rfl)
theorem insZ_len (x : Int) : ∀ l : List Int, (insZ x l).length ≤ l.length + 1
  | [] => by simp [insZ]
  | y :: t => by
    unfold insZ
    split
    · simp
    · split
      · simp
      · have := insZ_len x t; simp; omega
theorem setOf_len : ∀ l : List Int, (setOf l).length ≤ l.length
  | [] => by simp [setOf]
  | x :: l => by
    have h1 := setOf_len l
    have h2 := insZ_len x (setOf l)
    show (insZ x (setOf l)).length ≤ _
    simp; omega
theorem mem_setOf {x : Int} {xs : List Int} : x ∈ setOf xs ↔ x ∈ xs := (isSet_of xs).2 x
theorem setOf_filter (p : Int → Bool) (xs : List Int) : setOf (xs.filter p) = (setOf xs).filter p :=
  setOf_is ⟨(isSet_of xs).1.filter p, fun x => by rw [List.mem_filter, List.mem_filter, mem_setOf]⟩
end Go.Proofs.Ythebilmeehnkpaa.Gt
