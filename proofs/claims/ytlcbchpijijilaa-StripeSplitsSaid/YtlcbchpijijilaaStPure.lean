/-
  Package stripe, pure: places and their inverse; extents, joined where they meet; sizes of objects.
-/
namespace Go.Proofs.Ytlcbchpijijilaa.Stripe
set_option linter.unusedVariables false

theorem qr {m q r : Nat} (h : r < m) : (q * m + r) / m = q ∧ (q * m + r) % m = r := by
  constructor
  · rw [Nat.mul_comm q m, Nat.mul_add_div (by omega), Nat.div_eq_of_lt h]; omega
  · rw [Nat.mul_comm q m, Nat.mul_add_mod, Nat.mod_eq_of_lt h]

/-- The object and the offset in it of byte n. -/
def objOf (U W D n : Nat) : Nat := n / U / W / D * W + n / U % W
def frOf (U W D n : Nat) : Nat := n / U / W % D * U + n % U
/-- The byte of an object's offset. -/
def bk (U W D o f : Nat) : Nat := ((o / W * D + f / U) * W + o % W) * U + f % U

section
variable {U W D : Nat}
theorem bk_place (hU : 0 < U) (hW : 0 < W) (hD : 0 < D) (n : Nat) : bk U W D (objOf U W D n) (frOf U W D n) = n := by
  unfold bk objOf frOf
  rw [(qr (Nat.mod_lt (n / U) hW)).1, (qr (Nat.mod_lt (n / U) hW)).2, (qr (Nat.mod_lt n hU)).1, (qr (Nat.mod_lt n hU)).2]
  rw [Nat.div_add_mod', Nat.div_add_mod', Nat.div_add_mod']
theorem fr_lt (hU : 0 < U) (hD : 0 < D) (n : Nat) : frOf U W D n < U * D := by
  unfold frOf
  have h1 : n / U / W % D + 1 ≤ D := Nat.mod_lt _ hD
  have h2 := Nat.mod_lt n hU
  have h3 := Nat.mul_le_mul_right U h1
  rw [Nat.add_mul, Nat.one_mul, Nat.mul_comm D U] at h3
  omega
theorem place_bk (hU : 0 < U) (hW : 0 < W) (hD : 0 < D) {o f : Nat} (hf : f < U * D) : objOf U W D (bk U W D o f) = o ∧ frOf U W D (bk U W D o f) = f := by
  have hd : f / U < D := Nat.div_lt_of_lt_mul hf
  have e1 := qr (q := (o / W * D + f / U) * W + o % W) (Nat.mod_lt f hU)
  have e2 := qr (q := o / W * D + f / U) (Nat.mod_lt o hW)
  have e3 := qr (q := o / W) hd
  unfold objOf frOf bk
  rw [e1.1, e1.2, e2.1, e2.2, e3.1, e3.2, Nat.div_add_mod', Nat.div_add_mod']
  exact ⟨rfl, rfl⟩

theorem bk_next (o f : Nat) (hU : 0 < U) : bk U W D o (f + U) = bk U W D o f + U * W := by
  unfold bk
  rw [Nat.add_div_right f hU, Nat.add_mod_right, ← Nat.add_assoc, Nat.add_mul _ 1 W, Nat.one_mul]
  rw [show ((o / W * D + f / U) * W + W + o % W) = (((o / W * D + f / U) * W + o % W) + W) by omega, Nat.add_mul _ W U, Nat.mul_comm W U]
  omega
theorem bk_col (o f : Nat) (hW : 0 < W) : bk U W D o f = bk U W D (o / W * W) f + o % W * U := by
  unfold bk
  rw [Nat.mul_div_cancel _ hW, Nat.mul_mod_left, Nat.add_zero, Nat.add_mul]
  omega
theorem bk_lt {o f f' : Nat} (hU : 0 < U) (hW : 0 < W) (h : f < f') : bk U W D o f < bk U W D o f' := by
  unfold bk
  have h1 := Nat.div_add_mod' f U
  have h2 := Nat.div_add_mod' f' U
  have m1 := Nat.mod_lt f hU
  have m2 := Nat.mod_lt f' hU
  have h3 : f / U ≤ f' / U := Nat.div_le_div_right (by omega)
  rcases Nat.lt_or_eq_of_le h3 with h4 | h4
  · have g1 : (o / W * D + f / U + 1) * W ≤ (o / W * D + f' / U) * W := Nat.mul_le_mul_right _ (by omega)
    rw [Nat.add_mul, Nat.one_mul] at g1
    have g2 : ((o / W * D + f / U) * W + o % W + 1) * U ≤ ((o / W * D + f' / U) * W + o % W) * U := Nat.mul_le_mul_right _ (by omega)
    rw [Nat.add_mul _ 1 U, Nat.one_mul] at g2
    omega
  · rw [← h4] at h2 ⊢
    omega
theorem bk_le {o f f' : Nat} (hU : 0 < U) (hW : 0 < W) (h : f ≤ f') : bk U W D o f ≤ bk U W D o f' := by
  rcases Nat.lt_or_eq_of_le h with h | rfl
  · exact Nat.le_of_lt (bk_lt hU hW h)
  · exact Nat.le_refl _
theorem bk_lt0 {o o' : Nat} (hU : 0 < U) (hW : 0 < W) (hD : 0 < D) (h : o < o') : bk U W D o 0 < bk U W D o' 0 := by
  unfold bk
  rw [Nat.zero_div, Nat.zero_mod, Nat.add_zero, Nat.add_zero, Nat.add_zero, Nat.add_zero]
  have h1 := Nat.div_add_mod' o W
  have h2 := Nat.div_add_mod' o' W
  have m1 := Nat.mod_lt o hW
  have h3 : o / W ≤ o' / W := Nat.div_le_div_right (by omega)
  have g : o / W * D * W + o % W < o' / W * D * W + o' % W := by
    rcases Nat.lt_or_eq_of_le h3 with h4 | h4
    · have g1 : (o / W + 1) * D ≤ o' / W * D := Nat.mul_le_mul_right _ h4
      rw [Nat.add_mul, Nat.one_mul] at g1
      have g2 : (o / W * D + 1) * W ≤ o' / W * D * W := Nat.mul_le_mul_right _ (by omega)
      rw [Nat.add_mul, Nat.one_mul] at g2
      omega
    · rw [← h4] at h2 ⊢
      omega
  exact Nat.mul_lt_mul_of_pos_right g hU

/-- How many bytes lie in one piece. -/
def runOf (U W D : Nat) : Nat := if W = 1 then U * D else U
theorem run_pos (hU : 0 < U) (hD : 0 < D) : 0 < runOf U W D := by
  unfold runOf; split
  · exact Nat.mul_pos hU hD
  · exact hU
theorem run_same (hU : 0 < U) (hW : 0 < W) (hD : 0 < D) (n : Nat) (h : (n + 1) % runOf U W D ≠ 0) : objOf U W D (n + 1) = objOf U W D n ∧ frOf U W D (n + 1) = frOf U W D n + 1 := by
  have key : ∀ (R : Nat), 0 < R → (n + 1) % R ≠ 0 → (n + 1) / R = n / R ∧ (n + 1) % R = n % R + 1 := fun R hR h => by
    have e := Nat.div_add_mod' (n + 1) R
    have m := Nat.mod_lt (n + 1) hR
    have q := qr (m := R) (q := (n + 1) / R) (r := (n + 1) % R - 1) (by omega)
    rw [show (n + 1) / R * R + ((n + 1) % R - 1) = n by omega] at q
    omega
  unfold runOf at h
  split at h
  · rename_i hw
    subst hw
    obtain ⟨k1, k2⟩ := key _ (Nat.mul_pos hU hD) h
    unfold objOf frOf
    simp only [Nat.div_one, Nat.mod_one, Nat.mul_one, Nat.add_zero, Nat.div_div_eq_div_mul]
    have e : ∀ x, x / U % D * U + x % U = x % (U * D) := fun x => by rw [Nat.mod_mul, Nat.mul_comm U]; omega
    rw [e, e]
    exact ⟨k1, k2⟩
  · obtain ⟨k1, k2⟩ := key _ hU h
    unfold objOf frOf
    rw [k1, k2]
    exact ⟨rfl, rfl⟩
theorem run_break (hU : 0 < U) (hW : 0 < W) (hD : 0 < D) (n : Nat) (h : (n + 1) % runOf U W D = 0) : objOf U W D (n + 1) ≠ objOf U W D n := by
  have key : ∀ (R : Nat), 0 < R → (n + 1) % R = 0 → (n + 1) / R = n / R + 1 := fun R hR h => by
    have e := Nat.div_add_mod' (n + 1) R
    have hp : 0 < (n + 1) / R := by
      rcases Nat.eq_zero_or_pos ((n + 1) / R) with h0 | h0
      · rw [h0, h] at e; omega
      · exact h0
    have q := qr (m := R) (q := (n + 1) / R - 1) (r := R - 1) (by omega)
    have e2 : ((n + 1) / R - 1) * R + (R - 1) = n := by
      rw [Nat.sub_mul, Nat.one_mul]
      have := Nat.mul_le_mul_right R hp
      omega
    rw [e2] at q
    omega
  unfold runOf at h
  split at h
  · rename_i hw
    subst hw
    have k := key _ (Nat.mul_pos hU hD) h
    unfold objOf
    simp only [Nat.div_one, Nat.mod_one, Nat.mul_one, Nat.add_zero, Nat.div_div_eq_div_mul]
    omega
  · have k := key _ hU h
    unfold objOf
    intro e
    have e1 := congrArg (· % W) e
    simp only [Nat.mul_add_mod', Nat.mod_mod] at e1
    rw [k] at e1
    have m := Nat.mod_lt (n / U) hW
    have d := Nat.div_add_mod' (n / U) W
    have d2 := Nat.div_add_mod' (n / U + 1) W
    by_cases hl : n / U % W + 1 < W
    · have q := (qr (q := n / U / W) hl).2
      rw [show n / U / W * W + (n / U % W + 1) = n / U + 1 by omega] at q
      omega
    · have q := (qr (m := W) (q := n / U / W + 1) (r := 0) hW).2
      rw [Nat.add_mul, show n / U / W * W + 1 * W + 0 = n / U + 1 by omega] at q
      omega
end

/-- An extent: object, offset, length. -/
abbrev Ex := Nat × Nat × Nat
def meets (a b : Ex) : Bool := a.1 == b.1 && a.2.1 + a.2.2 == b.2.1
def longer (a : Ex) (n : Nat) : Ex := (a.1, a.2.1, a.2.2 + n)
def join (x y : List Ex) : List Ex :=
  match x.getLast?, y with
  | some a, b :: ys => if meets a b then x.dropLast ++ longer a b.2.2 :: ys else x ++ b :: ys
  | _, _ => x ++ y
theorem join_nil (y : List Ex) : join [] y = y := by unfold join; simp
theorem join_nil' (x : List Ex) : join x [] = x := by
  unfold join; split
  · rename_i h; cases h
  · simp
theorem join_snoc (x : List Ex) (a b : Ex) (y : List Ex) : join (x ++ [a]) (b :: y) = if meets a b then x ++ longer a b.2.2 :: y else x ++ a :: b :: y := by
  unfold join; simp
theorem join_no {x : List Ex} {b : Ex} (y : List Ex) (h : ∀ xs a, x = xs ++ [a] → meets a b = false) : join x (b :: y) = x ++ b :: y := by
  rcases List.eq_nil_or_concat x with rfl | ⟨xs, a, rfl⟩
  · rw [join_nil]; rfl
  · rw [List.concat_eq_append, join_snoc, h xs a (by rw [List.concat_eq_append])]; simp
theorem meets_longer (a b c : Ex) (h : meets a b = true) : meets (longer a b.2.2) c = meets b c := by
  unfold meets longer at *
  simp only [Bool.and_eq_true, beq_iff_eq] at h
  obtain ⟨h1, h2⟩ := h
  rw [Bool.eq_iff_iff]
  simp only [Bool.and_eq_true, beq_iff_eq]
  omega
theorem join_assoc (x : List Ex) {y : List Ex} (hy : y ≠ []) (b : Ex) : join (join x y) [b] = join x (join y [b]) := by
  rcases List.eq_nil_or_concat x with rfl | ⟨xs, a, rfl⟩
  · rw [join_nil, join_nil]
  · rw [List.concat_eq_append]
    obtain ⟨c, ys, rfl⟩ : ∃ c ys, y = c :: ys := by
      cases y with
      | nil => exact absurd rfl hy
      | cons c ys => exact ⟨c, ys, rfl⟩
    rcases List.eq_nil_or_concat ys with rfl | ⟨zs, d, rfl⟩
    · have e1 : join [c] [b] = if meets c b then [longer c b.2.2] else [c, b] := join_snoc [] c b []
      rw [join_snoc, e1]
      by_cases h1 : meets a c = true
      · rw [if_pos h1]
        have e2 := join_snoc xs (longer a c.2.2) b []
        rw [show xs ++ [longer a c.2.2] = xs ++ [longer a c.2.2] from rfl] at e2
        rw [e2, meets_longer a c b h1]
        by_cases h2 : meets c b = true
        · rw [if_pos h2, if_pos h2, join_snoc, if_pos (by rw [← h1]; rfl)]
          unfold longer; simp [Nat.add_assoc]
        · rw [if_neg h2, if_neg h2, join_snoc, if_pos h1]
      · rw [if_neg h1]
        have e2 := join_snoc (xs ++ [a]) c b []
        rw [show xs ++ [a] ++ [c] = xs ++ [a, c] by simp] at e2
        rw [e2]
        by_cases h2 : meets c b = true
        · rw [if_pos h2, if_pos h2, join_snoc, if_neg (by rw [show meets a (longer c b.2.2) = meets a c from rfl]; exact h1)]
          simp
        · rw [if_neg h2, if_neg h2, join_snoc, if_neg h1]
          simp
    · rw [List.concat_eq_append]
      have e1 := join_snoc (c :: zs) d b []
      rw [show (c :: zs) ++ [d] = c :: (zs ++ [d]) from rfl] at e1
      rw [e1]
      have key : ∀ pre : List Ex, join (pre ++ (zs ++ [d])) [b] = if meets d b then pre ++ zs ++ [longer d b.2.2] else pre ++ zs ++ [d, b] := fun pre => by
        rw [← List.append_assoc, join_snoc]
      rw [join_snoc]
      by_cases h1 : meets a c = true
      · rw [if_pos h1]
        have k := key (xs ++ [longer a c.2.2])
        rw [show xs ++ [longer a c.2.2] ++ (zs ++ [d]) = xs ++ longer a c.2.2 :: (zs ++ [d]) by simp] at k
        rw [k]
        by_cases h2 : meets d b = true
        · rw [if_pos h2, if_pos h2, show c :: zs ++ [longer d b.2.2] = c :: (zs ++ [longer d b.2.2]) from rfl, join_snoc, if_pos h1]; simp
        · rw [if_neg h2, if_neg h2, show c :: zs ++ [d, b] = c :: (zs ++ [d, b]) from rfl, join_snoc, if_pos h1]; simp
      · rw [if_neg h1]
        have k := key (xs ++ [a, c])
        rw [show xs ++ [a, c] ++ (zs ++ [d]) = xs ++ a :: c :: (zs ++ [d]) by simp] at k
        rw [k]
        by_cases h2 : meets d b = true
        · rw [if_pos h2, if_pos h2, show c :: zs ++ [longer d b.2.2] = c :: (zs ++ [longer d b.2.2]) from rfl, join_snoc, if_neg h1]; simp
        · rw [if_neg h2, if_neg h2, show c :: zs ++ [d, b] = c :: (zs ++ [d, b]) from rfl, join_snoc, if_neg h1]; simp

/-- The extents of the k bytes from n on, byte by byte. -/
def grow (o f : Nat → Nat) (n : Nat) : Nat → List Ex
  | 0 => []
  | k + 1 => join (grow o f n k) [(o (n + k), f (n + k), 1)]
section
variable {o f : Nat → Nat}
theorem grow_last (n k : Nat) : ∃ xs a, grow o f n (k + 1) = xs ++ [a] ∧ a.1 = o (n + k) ∧ a.2.1 + a.2.2 = f (n + k) + 1 := by
  unfold grow
  rcases List.eq_nil_or_concat (grow o f n k) with h | ⟨xs, a, h⟩
  · rw [h, join_nil]; exact ⟨[], _, rfl, rfl, rfl⟩
  · rw [h, List.concat_eq_append, join_snoc]
    split
    · rename_i hm
      unfold meets at hm
      simp only [Bool.and_eq_true, beq_iff_eq] at hm
      exact ⟨xs, _, rfl, hm.1, by show a.2.1 + (a.2.2 + 1) = _; omega⟩
    · exact ⟨xs ++ [a], (o (n + k), f (n + k), 1), by simp, rfl, rfl⟩
theorem grow_ne (n : Nat) {k : Nat} (h : k ≠ 0) : grow o f n k ≠ [] := by
  obtain ⟨j, rfl⟩ : ∃ j, k = j + 1 := ⟨k - 1, by omega⟩
  obtain ⟨xs, a, e, _⟩ := grow_last (o := o) (f := f) n j
  rw [e]; simp
theorem grow_len (n k : Nat) : (grow o f n k).length ≤ k := by
  induction k with
  | zero => simp [grow]
  | succ k ih =>
    unfold grow
    rcases List.eq_nil_or_concat (grow o f n k) with h | ⟨xs, a, h⟩
    · rw [h, join_nil]; simp
    · rw [h, List.concat_eq_append] at ih
      rw [h, List.concat_eq_append, join_snoc]
      simp at ih
      split <;> simp <;> omega
theorem grow_add (n a b : Nat) : grow o f n (a + b) = join (grow o f n a) (grow o f (n + a) b) := by
  induction b with
  | zero => rw [Nat.add_zero]; show _ = join _ []; rw [join_nil']
  | succ b ih =>
    rw [← Nat.add_assoc]
    show join (grow o f n (a + b)) _ = join _ (join _ _)
    rw [ih, ← Nat.add_assoc]
    by_cases hb : b = 0
    · subst hb
      show join (join _ []) _ = join _ (join [] _)
      rw [join_nil', join_nil]
    · exact join_assoc _ (grow_ne _ hb) _
/-- Within R bytes that stand in one piece. -/
theorem grow_one {R : Nat} (hR : 0 < R) (hs : ∀ n, (n + 1) % R ≠ 0 → o (n + 1) = o n ∧ f (n + 1) = f n + 1) (n : Nat) {p : Nat} (h1 : 1 ≤ p) (hp : p ≤ R - n % R) :
    grow o f n p = [(o n, f n, p)] ∧ ∀ q, q < p → o (n + q) = o n ∧ f (n + q) = f n + q := by
  induction p with
  | zero => omega
  | succ p ih =>
    by_cases h0 : p = 0
    · subst h0
      refine ⟨by show join [] _ = _; rw [join_nil]; rfl, fun q hq => ?_⟩
      obtain rfl : q = 0 := by omega
      exact ⟨rfl, rfl⟩
    · obtain ⟨g1, g2⟩ := ih (by omega) (by omega)
      have hm : (n + p) % R ≠ 0 := by
        have d := Nat.div_add_mod' n R
        have q := (qr (m := R) (q := n / R) (r := n % R + p) (by omega)).2
        rw [show n / R * R + (n % R + p) = n + p by omega] at q
        omega
      have g3 := g2 (p - 1) (by omega)
      have g4 := hs (n + (p - 1)) (by rw [show n + (p - 1) + 1 = n + p by omega]; exact hm)
      rw [show n + (p - 1) + 1 = n + p by omega] at g4
      have g5 : o (n + p) = o n ∧ f (n + p) = f n + p := ⟨by rw [g4.1, g3.1], by rw [g4.2, g3.2]; omega⟩
      refine ⟨?_, fun q hq => ?_⟩
      · show join (grow o f n p) _ = _
        rw [g1]
        have e := join_snoc [] (o n, f n, p) (o (n + p), f (n + p), 1) []
        rw [List.nil_append] at e
        rw [e, if_pos (by unfold meets; simp [g5.1, g5.2])]
        rfl
      · by_cases hq2 : q < p
        · exact g2 q hq2
        · obtain rfl : q = p := by omega
          exact g5
theorem grow_run {R : Nat} (hR : 0 < R) (hs : ∀ n, (n + 1) % R ≠ 0 → o (n + 1) = o n ∧ f (n + 1) = f n + 1) (hb : ∀ n, (n + 1) % R = 0 → o (n + 1) ≠ o n)
    (n k : Nat) {p : Nat} (h1 : 1 ≤ p) (hp : p ≤ R - (n + k) % R) (hk : k = 0 ∨ (n + k) % R = 0) : grow o f n (k + p) = grow o f n k ++ [(o (n + k), f (n + k), p)] := by
  rw [grow_add, (grow_one hR hs (n + k) h1 hp).1]
  by_cases h0 : k = 0
  · subst h0
    show join [] _ = [] ++ _
    rw [join_nil]; rfl
  · obtain ⟨j, rfl⟩ : ∃ j, k = j + 1 := ⟨k - 1, by omega⟩
    refine join_no [] fun xs a e => ?_
    obtain ⟨ys, b, e2, e3, _⟩ := grow_last (o := o) (f := f) n j
    rw [e2] at e
    have e4 := List.append_inj' e rfl
    have e5 : b = a := by simpa using e4.2
    subst e5
    have h3 := hb (n + j) (by rw [Nat.add_assoc]; exact hk.resolve_left h0)
    unfold meets
    rw [Bool.and_eq_false_iff]
    exact .inl (beq_eq_false_iff_ne.2 (by rw [e3]; exact fun e => h3 (by rw [Nat.add_assoc]; exact e.symm)))

def tot (s : List Ex) : Nat := (s.map (·.2.2)).sum
theorem tot_app (a b : List Ex) : tot (a ++ b) = tot a + tot b := by unfold tot; simp
theorem tot_one (a : Ex) : tot [a] = a.2.2 := by unfold tot; simp
/-- Each extent stands where its bytes are; none meets the next. -/
def Good (o f : Nat → Nat) (n k : Nat) (s : List Ex) : Prop :=
  tot s = k ∧ ∀ j a, s[j]? = some a → 1 ≤ a.2.2 ∧ (∀ q, q < a.2.2 → o (n + tot (s.take j) + q) = a.1 ∧ f (n + tot (s.take j) + q) = a.2.1 + q) ∧ ∀ b, 0 < j → s[j - 1]? = some b → meets b a = false
theorem grow_good (n k : Nat) : Good o f n k (grow o f n k) := by
  induction k with
  | zero => exact ⟨rfl, fun j a h => by simp [grow] at h⟩
  | succ k ih =>
    obtain ⟨i1, i2⟩ := ih
    unfold grow
    by_cases hm : ∃ xs a, grow o f n k = xs ++ [a] ∧ meets a (o (n + k), f (n + k), 1) = true
    · obtain ⟨xs, a, e, hm⟩ := hm
      rw [e] at i1 i2 ⊢
      rw [join_snoc, if_pos hm]
      rw [tot_app, tot_one] at i1
      unfold meets at hm
      simp only [Bool.and_eq_true, beq_iff_eq] at hm
      refine ⟨by rw [tot_app, tot_one]; show tot xs + (a.2.2 + 1) = _; omega, fun j c hj => ?_⟩
      have tk : ∀ {j}, j ≤ xs.length → ∀ z : List Ex, (xs ++ z).take j = xs.take j := fun h z => by rw [List.take_append_of_le_length h]
      rcases Nat.lt_or_ge j xs.length with hl | hl
      · rw [List.getElem?_append_left hl] at hj
        have h := i2 j c (by rw [List.getElem?_append_left hl]; exact hj)
        rw [tk (by omega)] at h ⊢
        refine ⟨h.1, h.2.1, fun b h0 hb => h.2.2 b h0 ?_⟩
        rw [List.getElem?_append_left (by omega)] at hb ⊢
        exact hb
      · rw [List.getElem?_append_right hl] at hj
        have h0 : j - xs.length = 0 := by
          rcases Nat.eq_zero_or_pos (j - xs.length) with h | h
          · exact h
          · rw [List.getElem?_eq_none (by simp; omega)] at hj; cases hj
        obtain rfl : j = xs.length := by omega
        rw [h0] at hj
        simp at hj
        subst hj
        have h := i2 xs.length a (by rw [List.getElem?_append_right (Nat.le_refl _)]; simp)
        rw [tk (Nat.le_refl _)] at h ⊢
        rw [List.take_length] at h ⊢
        refine ⟨by show 1 ≤ a.2.2 + 1; omega, fun q hq => ?_, fun b h0 hb => ?_⟩
        · by_cases hq2 : q < a.2.2
          · exact h.2.1 q hq2
          · have hq' : q < a.2.2 + 1 := hq
            obtain rfl : q = a.2.2 := by omega
            rw [show n + tot xs + a.2.2 = n + k by omega]
            exact ⟨hm.1.symm, hm.2.symm⟩
        · refine h.2.2 b h0 ?_
          rw [List.getElem?_append_left (by omega)] at hb ⊢
          exact hb
    · rw [join_no [] fun xs a e => by
        cases h : meets a (o (n + k), f (n + k), 1) with
        | false => rfl
        | true => exact absurd ⟨xs, a, e, h⟩ hm]
      refine ⟨by rw [tot_app, tot_one, i1], fun j c hj => ?_⟩
      rcases Nat.lt_or_ge j (grow o f n k).length with hl | hl
      · rw [List.getElem?_append_left hl] at hj
        have h := i2 j c hj
        rw [List.take_append_of_le_length (by omega)]
        refine ⟨h.1, h.2.1, fun b h0 hb => h.2.2 b h0 ?_⟩
        rw [List.getElem?_append_left (by omega)] at hb
        exact hb
      · rw [List.getElem?_append_right hl] at hj
        have h0 : j - (grow o f n k).length = 0 := by
          rcases Nat.eq_zero_or_pos (j - (grow o f n k).length) with h | h
          · exact h
          · rw [List.getElem?_eq_none (by simp; omega)] at hj; cases hj
        obtain rfl : j = (grow o f n k).length := by omega
        rw [h0] at hj
        simp at hj
        subst hj
        rw [List.take_append_of_le_length (Nat.le_refl _), List.take_length, i1]
        refine ⟨Nat.le_refl _, fun q hq => ?_, fun b h0 hb => ?_⟩
        · have hq' : q < 1 := hq
          obtain rfl : q = 0 := by omega
          exact ⟨rfl, rfl⟩
        · rw [List.getElem?_append_left (by omega)] at hb
          cases h : meets b (o (n + k), f (n + k), 1) with
          | false => rfl
          | true =>
            refine absurd ⟨(grow o f n k).dropLast, b, ?_, h⟩ hm
            have hne : grow o f n k ≠ [] := fun e => by rw [e] at h0; simp at h0
            have e2 := List.dropLast_concat_getLast hne
            have e3 : (grow o f n k).getLast hne = b := by
              rw [List.getLast_eq_getElem]
              rw [List.getElem?_eq_getElem (by omega)] at hb
              injection hb
            rw [e3] at e2
            exact e2.symm
end
end Go.Proofs.Ytlcbchpijijilaa.Stripe
