/-
  Package vector, pure: version vectors; which is under which; the join; a tick; the newest.
-/
import Derived.WalkKit
namespace Go.Proofs.Ythebilmeehnkpaa.Ve
set_option linter.unusedVariables false
set_option linter.unusedSimpArgs false

abbrev Ve := List Int
def under : Ve → Ve → Bool
  | x :: a, y :: b => decide (x ≤ y) && under a b
  | _, _ => true
def cmp (a b : Ve) : Int := if under a b = true ∧ under b a = true then 1 else if under a b = true then 2 else if under b a = true then 3 else 4
def join (a b : Ve) : Ve := List.zipWith max a b
def okX (x : Int) : Bool := decide (0 ≤ x) && decide (x ≤ 1099511627776)
def wrong1 (n : Nat) (v : Ve) : Int := if 16 < v.length ∨ v.length ≠ n then 1 else if v.all okX = true then 0 else 2
def wrongTo (n : Nat) : List Ve → Int
  | [] => 0
  | v :: l => if wrong1 n v = 0 then wrongTo n l else wrong1 n v
def wrongE : List Ve → Int
  | [] => 0
  | v :: l => wrongTo v.length (v :: l)
def bump (a : Ve) (k : Nat) : Ve := a.set k (a.getD k 0 + 1)
def tickE (a : Ve) (who : Int) : Int := if wrongE [a] ≠ 0 then wrongE [a] else if who < 0 ∨ (a.length : Int) ≤ who then 3 else if a.getD who.toNat 0 = 1099511627776 then 4 else 0
def topIn (l : List Ve) (a : Ve) : Bool := l.all (fun b => !under a b || under b a)
def newStep (l : List Ve) (out : List Ve) (a : Ve) : List Ve := if (topIn l a && out.all (fun b => decide (cmp a b ≠ 1))) = true then out ++ [a] else out
def newest (l : List Ve) : List Ve := l.foldl (newStep l) []
def newE (l : List Ve) : Int := if 400 < l.length then 2 else wrongE l
/-- All are vectors of n counters. -/
def Fine (n : Nat) (v : Ve) : Prop := v.length = n ∧ n ≤ 16 ∧ ∀ x ∈ v, 0 ≤ x ∧ x ≤ 1099511627776

/-! ### Wrong -/
theorem wrong1_zero {n : Nat} {v : Ve} : wrong1 n v = 0 ↔ Fine n v := by
  unfold wrong1 Fine
  constructor
  · intro h
    split at h
    · cases h
    rename_i h1
    split at h
    · rename_i h2
      refine ⟨by omega, by omega, fun x hx => ?_⟩
      have := List.all_eq_true.1 h2 x hx
      unfold okX at this
      rw [Bool.and_eq_true, decide_eq_true_eq, decide_eq_true_eq] at this
      exact this
    · cases h
  · rintro ⟨h1, h2, h3⟩
    rw [if_neg (by omega), if_pos]
    refine List.all_eq_true.2 fun x hx => ?_
    unfold okX
    rw [Bool.and_eq_true, decide_eq_true_eq, decide_eq_true_eq]
    exact h3 x hx
theorem wrongTo_zero {n : Nat} : ∀ {l : List Ve}, wrongTo n l = 0 ↔ ∀ v ∈ l, Fine n v
  | [] => by simp [wrongTo]
  | v :: l => by
    unfold wrongTo
    split
    · rename_i h
      rw [wrongTo_zero (l := l)]
      simp only [List.mem_cons, forall_eq_or_imp]
      exact ⟨fun h' => ⟨wrong1_zero.1 h, h'⟩, fun h' => h'.2⟩
    · rename_i h
      constructor
      · intro h'; exact absurd h' h
      · intro h'; exact absurd (wrong1_zero.2 (h' v (by simp))) h
theorem wrongE_zero {l : List Ve} : wrongE l = 0 ↔ ∃ n, ∀ v ∈ l, Fine n v := by
  cases l with
  | nil => simp [wrongE]
  | cons v l =>
    show wrongTo v.length (v :: l) = 0 ↔ _
    rw [wrongTo_zero]
    constructor
    · intro h; exact ⟨_, h⟩
    · rintro ⟨n, h⟩
      have := (h v (by simp)).1
      rw [this]; exact h
theorem wrong1_vals (n : Nat) (v : Ve) : wrong1 n v = 0 ∨ wrong1 n v = 1 ∨ wrong1 n v = 2 := by
  unfold wrong1
  split
  · simp
  · split <;> simp
theorem wrongTo_vals (n : Nat) : ∀ l : List Ve, wrongTo n l = 0 ∨ wrongTo n l = 1 ∨ wrongTo n l = 2
  | [] => .inl rfl
  | v :: l => by
    unfold wrongTo
    split
    · exact wrongTo_vals n l
    · exact wrong1_vals n v
theorem wrongE_vals (l : List Ve) : wrongE l = 0 ∨ wrongE l = 1 ∨ wrongE l = 2 := by
  cases l with
  | nil => exact .inl rfl
  | cons v l => exact wrongTo_vals _ _
/-- The loop of a test from the front. -/
theorem wrongTo_app (n : Nat) : ∀ (l k : List Ve), wrongTo n (l ++ k) = if wrongTo n l = 0 then wrongTo n k else wrongTo n l
  | [], k => by simp [wrongTo]
  | v :: l, k => by
    rw [List.cons_append, wrongTo, wrongTo, wrongTo_app n l k]
    by_cases h : wrong1 n v = 0
    · rw [if_pos h, if_pos h]
    · rw [if_neg h, if_neg h, if_neg h]

/-! ### The order -/
theorem under_refl : ∀ a : Ve, under a a = true
  | [] => rfl
  | x :: a => by simp [under, under_refl a]
theorem under_trans : ∀ {a b c : Ve}, a.length = b.length → b.length = c.length → under a b = true → under b c = true → under a c = true
  | [], _, _, _, _, _, _ => by simp [under]
  | x :: a, [], _, h, _, _, _ => by simp at h
  | x :: a, y :: b, [], _, h, _, _ => by simp at h
  | x :: a, y :: b, z :: c, h1, h2, h3, h4 => by
    simp only [under, Bool.and_eq_true, decide_eq_true_eq] at h3 h4 ⊢
    exact ⟨by omega, under_trans (by simpa using h1) (by simpa using h2) h3.2 h4.2⟩
theorem under_anti : ∀ {a b : Ve}, a.length = b.length → under a b = true → under b a = true → a = b
  | [], [], _, _, _ => rfl
  | [], _ :: _, h, _, _ => by simp at h
  | _ :: _, [], h, _, _ => by simp at h
  | x :: a, y :: b, h, h1, h2 => by
    simp only [under, Bool.and_eq_true, decide_eq_true_eq] at h1 h2
    rw [show x = y by omega, under_anti (by simpa using h) h1.2 h2.2]
theorem cmp_one {a b : Ve} (h : a.length = b.length) : cmp a b = 1 ↔ a = b := by
  unfold cmp
  constructor
  · intro e
    split at e
    · rename_i h1; exact under_anti h h1.1 h1.2
    · split at e
      · cases e
      · split at e <;> cases e
  · rintro rfl; rw [if_pos ⟨under_refl a, under_refl a⟩]
theorem cmp_two {a b : Ve} (h : a.length = b.length) : cmp a b = 2 ↔ under a b = true ∧ a ≠ b := by
  unfold cmp
  constructor
  · intro e
    split at e
    · cases e
    · rename_i h1
      split at e
      · rename_i h2; exact ⟨h2, fun e => h1 (by subst e; exact ⟨h2, h2⟩)⟩
      · split at e <;> cases e
  · rintro ⟨h1, h2⟩
    rw [if_neg (fun h' => h2 (under_anti h h'.1 h'.2)), if_pos h1]
theorem cmp_flip {a b : Ve} (h : a.length = b.length) : cmp b a = if cmp a b = 2 then 3 else if cmp a b = 3 then 2 else cmp a b := by
  unfold cmp
  by_cases h1 : under a b = true <;> by_cases h2 : under b a = true <;> simp [h1, h2]
theorem cmp_less {a b c : Ve} (h : a.length = b.length) (k : b.length = c.length) (h1 : cmp a b = 2) (h2 : cmp b c = 2) : cmp a c = 2 := by
  rw [cmp_two h] at h1
  rw [cmp_two k] at h2
  refine (cmp_two (h.trans k)).2 ⟨under_trans h k h1.1 h2.1, fun e => ?_⟩
  subst e
  exact h1.2 (under_anti h h1.1 h2.1)
theorem cmp_vals (a b : Ve) : cmp a b = 1 ∨ cmp a b = 2 ∨ cmp a b = 3 ∨ cmp a b = 4 := by
  unfold cmp
  split
  · simp
  · split
    · simp
    · split <;> simp

/-! ### The join -/
theorem join_len {a b : Ve} (h : a.length = b.length) : (join a b).length = a.length := by unfold join; rw [List.length_zipWith, h]; exact Nat.min_self _
theorem join_comm : ∀ a b : Ve, join a b = join b a
  | [], [] => rfl
  | [], _ :: _ => rfl
  | _ :: _, [] => rfl
  | x :: a, y :: b => by
    have := join_comm a b
    unfold join at this ⊢
    rw [List.zipWith_cons_cons, List.zipWith_cons_cons, this, Int.max_comm]
theorem join_assoc : ∀ a b c : Ve, join (join a b) c = join a (join b c)
  | [], _, _ => by simp [join]
  | _ :: _, [], _ => by simp [join]
  | _ :: _, _ :: _, [] => by simp [join]
  | x :: a, y :: b, z :: c => by
    have := join_assoc a b c
    unfold join at this ⊢
    simp only [List.zipWith_cons_cons]
    rw [this, Int.max_assoc]
theorem join_self : ∀ a : Ve, join a a = a
  | [] => rfl
  | x :: a => by
    have := join_self a
    unfold join at this ⊢
    rw [List.zipWith_cons_cons, this, Int.max_self]
theorem join_over : ∀ a b : Ve, under a (join a b) = true
  | [], _ => by simp [under, join]
  | _ :: _, [] => by simp [under, join]
  | x :: a, y :: b => by
    have := join_over a b
    unfold join at this ⊢
    rw [List.zipWith_cons_cons]
    simp only [under, Bool.and_eq_true, decide_eq_true_eq]
    exact ⟨by omega, this⟩
theorem join_fine {n : Nat} {a b : Ve} (ha : Fine n a) (hb : Fine n b) : Fine n (join a b) := by
  refine ⟨by rw [join_len (ha.1.trans hb.1.symm)]; exact ha.1, ha.2.1, fun x hx => ?_⟩
  unfold join at hx
  obtain ⟨k, hk⟩ := List.getElem?_of_mem hx
  rw [List.getElem?_zipWith] at hk
  cases e1 : a[k]? with
  | none => rw [e1] at hk; cases hk
  | some y =>
    cases e2 : b[k]? with
    | none => rw [e1, e2] at hk; cases hk
    | some z =>
      rw [e1, e2] at hk
      injection hk with hk
      have h1 := ha.2.2 y (List.mem_of_getElem? e1)
      have h2 := hb.2.2 z (List.mem_of_getElem? e2)
      omega
theorem cmp_join {a b : Ve} (h : a.length = b.length) : cmp a (join a b) = 1 ∨ cmp a (join a b) = 2 := by
  by_cases e : a = join a b
  · exact .inl ((cmp_one (join_len h).symm).2 e)
  · exact .inr ((cmp_two (join_len h).symm).2 ⟨join_over a b, e⟩)

/-! ### A tick -/
theorem bump_len (a : Ve) (k : Nat) : (bump a k).length = a.length := by unfold bump; rw [List.length_set]
theorem under_iff : ∀ {a b : Ve}, a.length = b.length → (under a b = true ↔ ∀ (k : Nat) (x y : Int), a[k]? = some x → b[k]? = some y → x ≤ y)
  | [], [], _ => by simp [under]
  | [], _ :: _, h => by simp at h
  | _ :: _, [], h => by simp at h
  | x :: a, y :: b, h => by
    have ih := under_iff (a := a) (b := b) (by simpa using h)
    simp only [under, Bool.and_eq_true, decide_eq_true_eq, ih]
    constructor
    · rintro ⟨h1, h2⟩ k u v hu hv
      cases k with
      | zero => simp at hu hv; omega
      | succ k => exact h2 k u v (by simpa using hu) (by simpa using hv)
    · intro h'
      exact ⟨h' 0 x y rfl rfl, fun k u v hu hv => h' (k + 1) u v (by simpa using hu) (by simpa using hv)⟩
theorem bump_at (a : Ve) (k j : Nat) : (bump a k)[j]? = if j = k then (a[k]?).map (· + 1) else a[j]? := by
  unfold bump
  by_cases e : j = k
  · subst e
    rw [if_pos rfl]
    cases h : a[j]? with
    | none => rw [List.getElem?_eq_none (by rw [List.length_set]; exact List.getElem?_eq_none_iff.1 h)]; rfl
    | some x =>
      have hj := (List.getElem?_eq_some_iff.1 h).1
      rw [List.getElem?_set_self hj, List.getD_eq_getElem?_getD, h]; rfl
  · rw [if_neg e, List.getElem?_set_ne (fun h => e h.symm)]
theorem bump_over {a : Ve} {k : Nat} (hk : k < a.length) : cmp a (bump a k) = 2 := by
  refine (cmp_two (bump_len a k).symm).2 ⟨(under_iff (bump_len a k).symm).2 fun j x y hx hy => ?_, fun e => ?_⟩
  · rw [bump_at] at hy
    split at hy
    · rename_i e; subst e; rw [hx] at hy; simp at hy; omega
    · rw [hx] at hy; injection hy with hy; omega
  · have h := bump_at a k k
    rw [if_pos rfl, ← e, List.getElem?_eq_getElem hk] at h
    simp at h
    omega
theorem bump_two {a : Ve} {k j : Nat} (hk : k < a.length) (hj : j < a.length) : cmp (bump a k) (bump a j) = if k = j then 1 else 4 := by
  have hl : (bump a k).length = (bump a j).length := by rw [bump_len, bump_len]
  by_cases e : k = j
  · subst e; rw [if_pos rfl]; exact (cmp_one rfl).2 rfl
  · rw [if_neg e]
    have n1 : ¬ under (bump a k) (bump a j) = true := fun h => by
      have := (under_iff hl).1 h k (a[k] + 1) a[k] (by rw [bump_at, if_pos rfl, List.getElem?_eq_getElem hk]; rfl) (by rw [bump_at, if_neg e, List.getElem?_eq_getElem hk])
      omega
    have n2 : ¬ under (bump a j) (bump a k) = true := fun h => by
      have := (under_iff hl.symm).1 h j (a[j] + 1) a[j] (by rw [bump_at, if_pos rfl, List.getElem?_eq_getElem hj]; rfl) (by rw [bump_at, if_neg (fun h => e h.symm), List.getElem?_eq_getElem hj])
      omega
    unfold cmp
    rw [if_neg (fun h => n1 h.1), if_neg n1, if_neg n2]
theorem bump_fine {n k : Nat} {a : Ve} (h : Fine n a) (hf : a.getD k 0 ≠ 1099511627776) (hk : k < n) : Fine n (bump a k) := by
  refine ⟨by rw [bump_len]; exact h.1, h.2.1, fun x hx => ?_⟩
  obtain ⟨j, hj⟩ := List.getElem?_of_mem hx
  rw [bump_at] at hj
  split at hj
  · cases e : a[k]? with
    | none => rw [e] at hj; cases hj
    | some y =>
      rw [e] at hj
      simp at hj
      have := h.2.2 y (List.mem_of_getElem? e)
      rw [List.getD_eq_getElem?_getD, e] at hf
      simp at hf
      omega
  · exact h.2.2 x (List.mem_of_getElem? hj)

/-! ### The newest -/
theorem topIn_iff {l : List Ve} {a : Ve} : topIn l a = true ↔ ∀ b ∈ l, under a b = true → under b a = true := by
  unfold topIn
  rw [List.all_eq_true]
  refine forall_congr' fun b => forall_congr' fun _ => ?_
  cases under a b <;> simp
theorem new_inv {n : Nat} {l : List Ve} : ∀ (p : List Ve), (∀ v ∈ p, v.length = n) → ∀ out0 : List Ve, (∀ v ∈ out0, v.length = n) → out0.Nodup →
    (p.foldl (newStep l) out0).Nodup ∧ (∀ v, v ∈ p.foldl (newStep l) out0 ↔ v ∈ out0 ∨ v ∈ p ∧ topIn l v = true) ∧ (∀ v ∈ p.foldl (newStep l) out0, v.length = n)
  | [], _, out0, h0, hn => ⟨hn, fun v => by simp, h0⟩
  | a :: p, hp, out0, h0, hn => by
    have ha := hp a (by simp)
    have key : (newStep l out0 a).Nodup ∧ (∀ v, v ∈ newStep l out0 a ↔ v ∈ out0 ∨ v = a ∧ topIn l a = true) ∧ (∀ v ∈ newStep l out0 a, v.length = n) := by
      unfold newStep
      split
      · rename_i h
        rw [Bool.and_eq_true, List.all_eq_true] at h
        have hni : a ∉ out0 := fun hm => by
          have := h.2 a hm
          rw [decide_eq_true_eq] at this
          exact this ((cmp_one rfl).2 rfl)
        refine ⟨List.nodup_append.2 ⟨hn, by simp, fun x hx y hy e => by simp at hy; subst hy; exact hni (e ▸ hx)⟩, fun v => ?_, fun v hv => ?_⟩
        · rw [List.mem_append, List.mem_singleton]
          exact or_congr_right ⟨fun e => ⟨e, h.1⟩, fun e => e.1⟩
        · rcases List.mem_append.1 hv with hv | hv
          · exact h0 v hv
          · simp at hv; rw [hv]; exact ha
      · rename_i h
        refine ⟨hn, fun v => ⟨.inl, ?_⟩, h0⟩
        rintro (hv | ⟨rfl, ht⟩)
        · exact hv
        · have h2 : ¬ (out0.all (fun b => decide (cmp v b ≠ 1))) = true := fun h' => h (by rw [ht, h']; rfl)
          have h3 : (out0.all (fun b => decide (cmp v b ≠ 1))) = false := by simpa using h2
          obtain ⟨b, hb, hc⟩ := List.all_eq_false.1 h3
          have hc : cmp v b = 1 := by simpa using hc
          rw [(cmp_one (ha.trans (h0 b hb).symm)).1 hc]
          exact hb
    obtain ⟨k1, k2, k3⟩ := key
    obtain ⟨g1, g2, g3⟩ := new_inv p (fun v hv => hp v (List.mem_cons_of_mem _ hv)) (newStep l out0 a) k3 k1
    refine ⟨g1, fun v => ?_, g3⟩
    rw [List.foldl_cons, g2 v, k2 v, List.mem_cons]
    constructor
    · rintro ((h | ⟨rfl, h⟩) | ⟨h, h'⟩)
      · exact .inl h
      · exact .inr ⟨.inl rfl, h⟩
      · exact .inr ⟨.inr h, h'⟩
    · rintro (h | ⟨rfl | h, h'⟩)
      · exact .inl (.inl h)
      · exact .inl (.inr ⟨rfl, h'⟩)
      · exact .inr ⟨h, h'⟩
theorem newest_facts {n : Nat} {l : List Ve} (h : ∀ v ∈ l, v.length = n) : (newest l).Nodup ∧ ∀ v, v ∈ newest l ↔ v ∈ l ∧ topIn l v = true := by
  obtain ⟨h1, h2, _⟩ := new_inv (l := l) l h [] (fun v hv => by simp at hv) List.nodup_nil
  exact ⟨h1, fun v => by unfold newest; rw [h2 v]; simp⟩
/-- What is left is apart. -/
theorem newest_apart {n : Nat} {l : List Ve} (h : ∀ v ∈ l, v.length = n) {a b : Ve} (ha : a ∈ newest l) (hb : b ∈ newest l) (hne : a ≠ b) : cmp a b = 4 := by
  obtain ⟨_, hf⟩ := newest_facts h
  obtain ⟨a1, a2⟩ := (hf a).1 ha
  obtain ⟨b1, b2⟩ := (hf b).1 hb
  have hl : a.length = b.length := (h a a1).trans (h b b1).symm
  have n1 : ¬ under a b = true := fun hu => hne (under_anti hl hu (topIn_iff.1 a2 b b1 hu))
  have n2 : ¬ under b a = true := fun hu => hne (under_anti hl (topIn_iff.1 b2 a a1 hu) hu)
  unfold cmp
  rw [if_neg (fun h => n1 h.1), if_neg n1, if_neg n2]
def total (a : Ve) : Int := a.foldl (· + ·) 0
theorem total_from : ∀ (a : Ve) (s : Int), a.foldl (· + ·) s = s + total a
  | [], s => by simp [total]
  | x :: a, s => by
    unfold total
    rw [List.foldl_cons, List.foldl_cons, total_from a (s + x), total_from a (0 + x)]
    omega
theorem total_cons (x : Int) (a : Ve) : total (x :: a) = x + total a := by
  show (x :: a).foldl (· + ·) 0 = _
  rw [List.foldl_cons, total_from, Int.zero_add]
theorem total_mono : ∀ {a b : Ve}, a.length = b.length → under a b = true → total a ≤ total b ∧ (total a = total b → a = b)
  | [], [], _, _ => ⟨Int.le_refl _, fun _ => rfl⟩
  | [], _ :: _, h, _ => by simp at h
  | _ :: _, [], h, _ => by simp at h
  | x :: a, y :: b, h, hu => by
    simp only [under, Bool.and_eq_true, decide_eq_true_eq] at hu
    obtain ⟨h1, h2⟩ := total_mono (a := a) (b := b) (by simpa using h) hu.2
    rw [total_cons, total_cons]
    refine ⟨by omega, fun e => ?_⟩
    rw [show x = y by omega, h2 (by omega)]
theorem max_exists (f : Ve → Int) : ∀ {l : List Ve}, l ≠ [] → ∃ b ∈ l, ∀ c ∈ l, f c ≤ f b
  | [], h => absurd rfl h
  | [a], _ => ⟨a, by simp, fun c hc => by simp at hc; subst hc; exact Int.le_refl _⟩
  | a :: b :: l, _ => by
    obtain ⟨m, hm, hmax⟩ := max_exists f (l := b :: l) (by simp)
    by_cases h : f m ≤ f a
    · refine ⟨a, by simp, fun c hc => ?_⟩
      rcases List.mem_cons.1 hc with rfl | hc
      · exact Int.le_refl _
      · exact Int.le_trans (hmax c hc) h
    · refine ⟨m, List.mem_cons_of_mem _ hm, fun c hc => ?_⟩
      rcases List.mem_cons.1 hc with rfl | hc
      · omega
      · exact hmax c hc
/-- Each is under one that is left. -/
theorem newest_over {n : Nat} {l : List Ve} (h : ∀ v ∈ l, v.length = n) {a : Ve} (ha : a ∈ l) : ∃ b ∈ newest l, under a b = true := by
  obtain ⟨_, hf⟩ := newest_facts h
  obtain ⟨b, hb, hmax⟩ := max_exists total (l := l.filter (fun b => under a b)) (fun e => by
    have : a ∈ l.filter (fun b => under a b) := List.mem_filter.2 ⟨ha, under_refl a⟩
    rw [e] at this; simp at this)
  obtain ⟨b1, b2⟩ := List.mem_filter.1 hb
  refine ⟨b, (hf b).2 ⟨b1, topIn_iff.2 fun c hc hu => ?_⟩, b2⟩
  have hbc := (h b b1).trans (h c hc).symm
  have hac := (h a ha).trans (h b b1).symm
  have hm := hmax c (List.mem_filter.2 ⟨hc, under_trans hac hbc b2 hu⟩)
  obtain ⟨t1, t2⟩ := total_mono hbc hu
  rw [← t2 (by omega)]
  exact under_refl b
theorem newest_sub {n : Nat} {l : List Ve} (h : ∀ v ∈ l, v.length = n) {a : Ve} (ha : a ∈ newest l) : a ∈ l := ((newest_facts h).2 a).1 ha |>.1
/-- Nothing falls out of a list of distinct ones that are all newest. -/
theorem keep_all {n : Nat} {l : List Ve} : ∀ (p out0 : List Ve), (∀ v ∈ out0 ++ p, v.length = n) → (out0 ++ p).Nodup → (∀ v ∈ p, topIn l v = true) → p.foldl (newStep l) out0 = out0 ++ p
  | [], out0, _, _, _ => by simp
  | a :: p, out0, hl, hn, ht => by
    have e : newStep l out0 a = out0 ++ [a] := by
      unfold newStep
      rw [if_pos]
      rw [Bool.and_eq_true, List.all_eq_true]
      refine ⟨ht a (by simp), fun b hb => decide_eq_true fun hc => ?_⟩
      have hab : a = b := (cmp_one ((hl a (by simp)).trans (hl b (by simp [hb])).symm)).1 hc
      exact (List.nodup_append.1 hn).2.2 b hb a (by simp) hab.symm
    rw [List.foldl_cons, e, keep_all p (out0 ++ [a]) (by simpa using hl) (by simpa using hn) (fun v hv => ht v (List.mem_cons_of_mem _ hv))]
    simp
theorem newest_again {n : Nat} {l : List Ve} (h : ∀ v ∈ l, v.length = n) : newest (newest l) = newest l := by
  obtain ⟨h1, hf⟩ := newest_facts h
  have := keep_all (n := n) (l := newest l) (newest l) [] (fun v hv => h v ((hf v).1 (by simpa using hv)).1) (by simpa using h1) (fun v hv => topIn_iff.2 fun b hb hu => topIn_iff.1 ((hf v).1 hv).2 b ((hf b).1 hb).1 hu)
  unfold newest at this ⊢
  simpa using this
theorem newest_len {n : Nat} {l : List Ve} : ∀ (p out0 : List Ve), (p.foldl (newStep l) out0).length ≤ out0.length + p.length
  | [], out0 => by simp
  | a :: p, out0 => by
    have := newest_len (n := n) (l := l) p (newStep l out0 a)
    have h2 : (newStep l out0 a).length ≤ out0.length + 1 := by unfold newStep; split <;> simp
    rw [List.foldl_cons, List.length_cons]
    omega
end Go.Proofs.Ythebilmeehnkpaa.Ve
