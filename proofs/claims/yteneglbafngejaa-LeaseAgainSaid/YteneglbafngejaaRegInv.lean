/-
  A region that draws its order, by a condition on what has come up so far: whichever operation may come up keeps the condition.
-/
import Derived.Test.YteneglbafngejaaRow
import Derived.Orders
namespace Go.Proofs.Yteneglbafngejaa.Reg
set_option linter.unusedVariables false
set_option linter.unusedSimpArgs false
open Go

section
variable {P : Program} {ops : Array Oper} {Q : Exit → Act → World → Prop}
theorem wpOp_plain {i : Nat} {o : Oper} {K : Act → World → Prop} {a : Act} {w : World} (hi : ops[i]? = some o) (hg : o.guard = none) (h : o.wp P a w K Q) : wpOp P ops Q i K a w := by
  unfold wpOp
  rw [hi]
  have : Region.wanted o (yielded ops a.tmps) = true := by unfold Region.wanted; rw [hg]
  simp only [this, if_true]
  exact .inl h
theorem getD_false {l : Array Bool} {i : Nat} (h : l.getD i true = false) : ∃ hi : i < l.size, l[i] = false := by
  rcases Nat.lt_or_ge i l.size with hi | hi
  · refine ⟨hi, ?_⟩
    simpa [hi] using h
  · simp [Array.getElem?_eq_none hi] at h
theorem count_put {l : Array Bool} {i : Nat} (h : l.getD i true = false) : (l.setIfInBounds i true).count false + 1 = l.count false := by
  obtain ⟨hi, e⟩ := getD_false h
  have hpos : 0 < l.count false := Array.count_pos_iff.2 (by rw [← e]; exact Array.getElem_mem hi)
  rw [Array.setIfInBounds, dif_pos hi, Array.count_set]
  simp [e]
  omega
theorem ready_none {l : Array Bool} (h : l.count false = 0) : Region.ready .any ops l = [] := by
  cases hr : Region.ready .any ops l with
  | nil => rfl
  | cons x xs =>
    obtain ⟨h1, _⟩ := mem_ready.1 (show x ∈ Region.ready .any ops l by rw [hr]; simp)
    obtain ⟨hi, e⟩ := getD_false h1
    have hpos : 0 < l.count false := Array.count_pos_iff.2 (by rw [← e]; exact Array.getElem_mem hi)
    omega
theorem any_inv (Inv : Array Bool → Act → World → Prop)
    (hs : ∀ (l : Array Bool) (a : Act) (w : World) (i : Nat) (o : Oper), l.size = ops.size → Inv l a w → ops[i]? = some o → l.getD i true = false → (∀ e ∈ o.after, Region.binds .any e = true → l.getD e.on false = true) → wpOp P ops Q i (fun a' w' => Inv (l.setIfInBounds i true) a' w') a w)
    (he : ∀ (l : Array Bool) (a : Act) (w : World), l.size = ops.size → Inv l a w → Region.ready .any ops l = [] → Q .normal a w) :
    ∀ (fuel : Nat) (l : Array Bool) (a : Act) (w : World), l.size = ops.size → l.count false ≤ fuel → Inv l a w → wpAny P .any ops Q fuel l a w := by
  intro fuel
  induction fuel with
  | zero =>
    intro l a w hz hc h
    have hr := ready_none (ops := ops) (show l.count false = 0 by omega)
    exact ⟨hr, he l a w hz h hr⟩
  | succ fuel ih =>
    intro l a w hz hc h
    refine ⟨fun hr => he l a w hz h hr, fun i hi => ?_⟩
    obtain ⟨h1, o, ho, hall⟩ := mem_ready.1 hi
    refine wpOp_mono (fun a' w' h' => ih _ a' w' (by simpa using hz) ?_ h') (hs l a w i o hz h ho h1 hall)
    have := count_put h1
    omega
theorem region_inv {id : Nat} {a : Act} {w : World} (hm : P.follows .mixedOrders = true) (Inv : Array Bool → Act → World → Prop) (h0 : Inv (Array.replicate ops.size false) a w.drew)
    (hs : ∀ (l : Array Bool) (a : Act) (w : World) (i : Nat) (o : Oper), l.size = ops.size → Inv l a w → ops[i]? = some o → l.getD i true = false → (∀ e ∈ o.after, Region.binds .any e = true → l.getD e.on false = true) → wpOp P ops Q i (fun a' w' => Inv (l.setIfInBounds i true) a' w') a w)
    (he : ∀ (l : Array Bool) (a : Act) (w : World), l.size = ops.size → Inv l a w → Region.ready .any ops l = [] → Q .normal a w) : (Code.region id ops true).wp P Q a w :=
  wp_region_any hm (any_inv Inv hs he ops.size _ a _ (by simp) (by simp) h0)
end
end Go.Proofs.Yteneglbafngejaa.Reg
