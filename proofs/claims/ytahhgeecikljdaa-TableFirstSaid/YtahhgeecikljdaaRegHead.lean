/-
  A region that draws its order: first some operations in one forced order, then operations that only read.
-/
import Derived.Test.YtahhgeecikljdaaRow
import Derived.StillTailTactics
namespace Go.Proofs.Ytahhgeecikljdaa.Reg
set_option linter.unusedVariables false
set_option linter.unusedSimpArgs false
open Go

section
variable {P : Program} {ops : Array Oper} {md : Region.Mode} {Q : Exit → Act → World → Prop}
theorem wp_then {o : Oper} {a : Act} {w : World} {N K : Act → World → Prop} (h : o.wp P a w N (Exit.then K Q)) : o.wp P a w N Q := by
  unfold Oper.wp at *
  generalize (execOp a.eval o).run P w = r at *
  cases r with
  | ok n w' => cases n <;> exact h
  | halt x w' => cases x <;> exact h
/-- The first operations come up one at a time, behind them the order of the text stands for all. -/
def headB (md : Region.Mode) (ops : Array Oper) (g : Nat) : Nat → Nat → Array Bool → Bool
  | 0, k, listed => Region.lexFrom md ops g k listed
  | f + 1, k, listed => decide (Region.ready md ops listed = [k]) && headB md ops g f (k + 1) (listed.setIfInBounds k true)
theorem any_head (hs : Region.noSelect ops = true) (l₂ : List Oper) : ∀ (l₁ : List Oper) (k : Nat) (listed : Array Bool) (a : Act) (w : World), (∀ j, j < l₁.length → l₁[j]? = ops[k + j]?) → (∀ j, l₂[j]? = ops[k + l₁.length + j]?) →
    headB md ops l₂.length l₁.length k listed = true → wpList P ops (Exit.then (fun a' w' => wpStill P ops w' (fun a'' => Q .normal a'' w') l₂ a') Q) l₁ a w → wpAny P md ops Q (l₁.length + l₂.length) listed a w
  | [], k, listed, a, w, _, h2, hB, h => by
    have h' : wpStill P ops w (fun a'' => Q .normal a'' w) l₂ a := h
    rw [List.length_nil, Nat.zero_add]
    exact wpAny_of_still (Q := fun a'' => Q .normal a'' w) (fun _ h => h) _ _ _ (wpAnyS_lex hs l₂ k listed a (by simpa using h2) hB h')
  | o :: l₁, k, listed, a, w, h1, h2, hB, h => by
    have h0 : ops[k]? = some o := by simpa using (h1 0 (by simp)).symm
    simp only [List.length_cons, headB, Bool.and_eq_true, decide_eq_true_eq] at hB
    rw [List.length_cons, show l₁.length + 1 + l₂.length = (l₁.length + l₂.length) + 1 by omega]
    refine ⟨fun h1 => (by rw [hB.1] at h1; cases h1), fun i hi => ?_⟩
    rw [hB.1] at hi
    have hik : i = k := by simpa using hi
    subst hik
    refine wpOp_mono (K := wpList P ops (Exit.then (fun a' w' => wpStill P ops w' (fun a'' => Q .normal a'' w') l₂ a') Q) l₁) (fun a' w' h' => any_head hs l₂ l₁ (i + 1) _ a' w' (fun j hj => by
      have := h1 (j + 1) (by simp; omega); simpa [Nat.add_assoc, Nat.add_comm 1 j] using this) (fun j => by
      have := h2 j; rw [List.length_cons] at this; rw [this]; congr 1; omega) hB.2 h') ?_
    unfold wpOp
    simp only [h0]
    unfold wpList at h
    split
    · rename_i hw
      simp only [hw, if_true] at h
      rcases h with h | ⟨h, h'⟩
      · exact .inl (wp_then h)
      · exact .inr ⟨h, h'⟩
    · rename_i hw
      simp only [hw] at h
      exact h
theorem region_head {id : Nat} {a : Act} {w : World} {l : List Oper} (n : Nat) (hm : P.follows .mixedOrders = true) (hB : (Region.noSelect l.toArray && decide (n ≤ l.length) && headB .any l.toArray (l.drop n).length (l.take n).length 0 (Array.replicate l.toArray.size false)) = true)
    (h : wpList P l.toArray (Exit.then (fun a' w' => wpStill P l.toArray w' (fun a'' => Q .normal a'' w') (l.drop n) a') Q) (l.take n) a w.drew) : (Code.region id l.toArray true).wp P Q a w := by
  simp only [Bool.and_eq_true, decide_eq_true_eq] at hB
  obtain ⟨⟨hs, hn⟩, hB⟩ := hB
  refine wp_region_any hm ?_
  have htl : (l.take n).length = n := by simp; omega
  have := any_head (md := .any) hs (l.drop n) (l.take n) 0 _ a w.drew (fun j hj => by
    have hj' : j < n := by rw [htl] at hj; exact hj
    simp [hj']) (fun j => by rw [htl]; simp [List.getElem?_drop]) hB h
  have e : (l.take n).length + (l.drop n).length = l.toArray.size := by rw [htl]; simp; omega
  rw [e] at this
  exact this
end
end Go.Proofs.Ytahhgeecikljdaa.Reg
