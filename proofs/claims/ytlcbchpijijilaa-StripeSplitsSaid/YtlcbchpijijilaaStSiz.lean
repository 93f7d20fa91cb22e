/-
  Package stripe, pure: the sizes of the objects of a file, byte by byte.
-/
import Derived.Test.YtlcbchpijijilaaStPure
namespace Go.Proofs.Ytlcbchpijijilaa.Stripe
set_option linter.unusedVariables false

def siz (o f : Nat → Nat) : Nat → List Nat
  | 0 => []
  | n + 1 => if o n = (siz o f n).length then siz o f n ++ [f n + 1] else (siz o f n).set (o n) (f n + 1)
theorem siz_run {o f : Nat → Nat} (n : Nat) {p : Nat} (h1 : 1 ≤ p) (h : ∀ q, q < p → o (n + q) = o n ∧ f (n + q) = f n + q) :
    siz o f (n + p) = if o n = (siz o f n).length then siz o f n ++ [f n + p] else (siz o f n).set (o n) (f n + p) := by
  induction p with
  | zero => omega
  | succ p ih =>
    by_cases h0 : p = 0
    · subst h0; rfl
    · have e := ih (by omega) (fun q hq => h q (by omega))
      obtain ⟨g1, g2⟩ := h p (by omega)
      show (if o (n + p) = (siz o f (n + p)).length then siz o f (n + p) ++ [f (n + p) + 1] else (siz o f (n + p)).set (o (n + p)) (f (n + p) + 1)) = _
      rw [e, g1, g2]
      by_cases hl : o n = (siz o f n).length
      · simp only [if_pos hl]
        rw [if_neg (by simp; omega), List.set_append_right _ _ (by omega), hl, Nat.sub_self]
        rfl
      · simp only [if_neg hl]
        rw [if_neg (by rw [List.length_set]; exact hl), List.set_set]
        rfl
theorem siz_len (o f : Nat → Nat) (n : Nat) : (siz o f n).length ≤ n := by
  induction n with
  | zero => simp [siz]
  | succ n ih => unfold siz; split <;> simp <;> omega
section
variable {U W D : Nat}
/-- Which objects are begun, and how far each is filled. -/
def Filled (U W D n : Nat) (l : List Nat) : Prop :=
  (∀ k, k < l.length ↔ bk U W D k 0 < n) ∧ ∀ k s, l[k]? = some s → s ≤ U * D ∧ ∀ j, j < U * D → (bk U W D k j < n ↔ j < s)
theorem Filled.le {n : Nat} {l : List Nat} (hU : 0 < U) (hW : 0 < W) (hD : 0 < D) (h : Filled U W D n l) : objOf U W D n ≤ l.length := by
  rcases Nat.lt_or_ge l.length (objOf U W D n) with h1 | h1
  · have h2 : ¬ bk U W D l.length 0 < n := fun k => Nat.lt_irrefl _ ((h.1 _).2 k)
    have h3 := bk_lt0 hU hW hD h1
    have h4 := bk_le (D := D) (o := objOf U W D n) hU hW (Nat.zero_le (frOf U W D n))
    rw [bk_place hU hW hD] at h4
    omega
  · exact h1
theorem Filled.new {n : Nat} {l : List Nat} (hU : 0 < U) (hW : 0 < W) (hD : 0 < D) (h : Filled U W D n l) (e : objOf U W D n = l.length) : frOf U W D n = 0 := by
  rcases Nat.eq_zero_or_pos (frOf U W D n) with h1 | h1
  · exact h1
  · have h2 := bk_lt (D := D) (o := objOf U W D n) hU hW h1
    rw [bk_place hU hW hD] at h2
    have := (h.1 _).2 h2
    omega
theorem Filled.old {n : Nat} {l : List Nat} (hU : 0 < U) (hW : 0 < W) (hD : 0 < D) (h : Filled U W D n l) (e : objOf U W D n < l.length) : l[objOf U W D n]? = some (frOf U W D n) := by
  have e1 := List.getElem?_eq_getElem e
  rw [e1]
  obtain ⟨h1, h2⟩ := h.2 _ _ e1
  have hf := fr_lt (W := W) hU hD n
  have b := bk_place hU hW hD n
  congr 1
  generalize hs : l[objOf U W D n] = s at *
  rcases Nat.lt_trichotomy s (frOf U W D n) with h3 | h3 | h3
  · have h4 := bk_lt (D := D) (o := objOf U W D n) hU hW h3
    have := (h2 s (by omega)).1 (by omega)
    omega
  · exact h3
  · have := (h2 _ hf).2 h3
    omega
theorem filled (hU : 0 < U) (hW : 0 < W) (hD : 0 < D) (n : Nat) : Filled U W D n (siz (objOf U W D) (frOf U W D) n) := by
  induction n with
  | zero => exact ⟨fun k => by simp [siz], fun k s h => by simp [siz] at h⟩
  | succ n ih =>
    have b := bk_place hU hW hD n
    have hf := fr_lt (W := W) hU hD n
    have hle := ih.le hU hW hD
    have key : ∀ k j, j < U * D → (bk U W D k j < n + 1 ↔ bk U W D k j < n ∨ (k = objOf U W D n ∧ j = frOf U W D n)) := fun k j hj => by
      constructor
      · intro h
        rcases Nat.lt_or_eq_of_le (Nat.le_of_lt_succ h) with h1 | h1
        · exact .inl h1
        · have p := place_bk (W := W) hU hW hD (o := k) hj
          rw [h1] at p
          exact .inr ⟨p.1.symm, p.2.symm⟩
      · rintro (h | ⟨rfl, rfl⟩)
        · omega
        · omega
    unfold siz
    by_cases e : objOf U W D n = (siz (objOf U W D) (frOf U W D) n).length
    · rw [if_pos e]
      have f0 := ih.new hU hW hD e
      refine ⟨fun k => ?_, fun k s hk => ?_⟩
      · rw [key k 0 (Nat.mul_pos hU hD), List.length_append, List.length_singleton, ← ih.1 k]
        omega
      · rcases Nat.lt_or_ge k (siz (objOf U W D) (frOf U W D) n).length with hl | hl
        · rw [List.getElem?_append_left hl] at hk
          obtain ⟨h1, h2⟩ := ih.2 k s hk
          exact ⟨h1, fun j hj => by rw [key k j hj, h2 j hj]; omega⟩
        · rw [List.getElem?_append_right hl] at hk
          have h0 : k - (siz (objOf U W D) (frOf U W D) n).length = 0 := by
            rcases Nat.eq_zero_or_pos (k - (siz (objOf U W D) (frOf U W D) n).length) with h | h
            · exact h
            · rw [List.getElem?_eq_none (by simp; omega)] at hk; cases hk
          rw [h0] at hk
          simp at hk
          subst hk
          obtain rfl : k = objOf U W D n := by omega
          refine ⟨by omega, fun j hj => ?_⟩
          rw [key _ j hj]
          have h3 : ¬ bk U W D (objOf U W D n) j < n := fun h => by
            have := bk_le (D := D) (o := objOf U W D n) hU hW (Nat.zero_le j)
            have := (ih.1 (objOf U W D n)).2 (by omega)
            omega
          omega
    · rw [if_neg e]
      have hlt : objOf U W D n < (siz (objOf U W D) (frOf U W D) n).length := by omega
      have hold := ih.old hU hW hD hlt
      refine ⟨fun k => ?_, fun k s hk => ?_⟩
      · rw [key k 0 (Nat.mul_pos hU hD), List.length_set, ← ih.1 k]
        omega
      · rw [List.getElem?_set] at hk
        by_cases hk2 : objOf U W D n = k
        · subst hk2
          rw [if_pos rfl, if_pos hlt] at hk
          injection hk with hk
          subst hk
          obtain ⟨h1, h2⟩ := ih.2 _ _ hold
          exact ⟨by omega, fun j hj => by rw [key _ j hj, h2 j hj]; omega⟩
        · rw [if_neg hk2] at hk
          obtain ⟨h1, h2⟩ := ih.2 k s hk
          exact ⟨h1, fun j hj => by rw [key k j hj, h2 j hj]; omega⟩
theorem sum_set (l : List Nat) (i x y : Nat) (h : l[i]? = some y) : (l.set i x).sum + y = l.sum + x := by
  induction l generalizing i with
  | nil => simp at h
  | cons a l ih =>
    cases i with
    | zero => simp at h; subst h; simp; omega
    | succ i => have := ih i (by simpa using h); simp; omega
theorem siz_sum (hU : 0 < U) (hW : 0 < W) (hD : 0 < D) (n : Nat) : (siz (objOf U W D) (frOf U W D) n).sum = n := by
  induction n with
  | zero => simp [siz]
  | succ n ih =>
    have F := filled hU hW hD n
    unfold siz
    by_cases e : objOf U W D n = (siz (objOf U W D) (frOf U W D) n).length
    · rw [if_pos e, List.sum_append, ih, F.new hU hW hD e]; simp
    · rw [if_neg e]
      have := sum_set _ _ (frOf U W D n + 1) _ (F.old hU hW hD (by have := F.le hU hW hD; omega))
      omega
/-- Side by side none is longer than another one by more than a unit. -/
theorem filled_even (hU : 0 < U) (hW : 0 < W) (hD : 0 < D) {n : Nat} {l : List Nat} (h : Filled U W D n l) {k s : Nat} (hk : l[k]? = some s) :
    ∃ S, l[k / W * W]? = some S ∧ s ≤ S ∧ S ≤ s + U ∧ s ≤ U * D ∧ 1 ≤ s := by
  have hkl := (List.getElem?_eq_some_iff.1 hk).1
  have hle : k / W * W ≤ k := Nat.div_mul_le_self k W
  have hsl : k / W * W < l.length := by omega
  have e := List.getElem?_eq_getElem hsl
  have eW : k / W * W / W * W = k / W * W := by rw [Nat.mul_div_cancel _ hW]
  obtain ⟨h1, h2⟩ := h.2 k s hk
  obtain ⟨h3, h4⟩ := h.2 _ _ e
  have c : ∀ j, bk U W D k j = bk U W D (k / W * W) j + k % W * U := fun j => bk_col k j hW
  have hm : k % W * U ≤ U * W := by
    have := Nat.mul_le_mul_right U (Nat.le_of_lt (Nat.mod_lt k hW))
    rw [Nat.mul_comm W U] at this; exact this
  have hUD := Nat.mul_pos hU hD
  refine ⟨_, e, ?_, ?_, h1, ?_⟩
  · rcases Nat.lt_or_ge (l[k / W * W]) s with hlt | hge
    · have a := (h2 _ (by omega)).2 hlt
      rw [c] at a
      have := (h4 (l[k / W * W]) (by omega)).1 (by omega)
      omega
    · exact hge
  · rcases Nat.lt_or_ge (s + U) (l[k / W * W]) with hlt | hge
    · have a := (h4 (s + U) (by omega)).2 hlt
      rw [bk_next _ _ hU] at a
      have b := (h2 s (by omega)).1 (by rw [c]; omega)
      omega
    · exact hge
  · have a := (h.1 k).1 hkl
    have := (h2 0 hUD).1 a
    omega
end
end Go.Proofs.Ytlcbchpijijilaa.Stripe
