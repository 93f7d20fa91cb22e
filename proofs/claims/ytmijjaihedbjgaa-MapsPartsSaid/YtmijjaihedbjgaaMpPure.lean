/-
  Package maps, pure: what a step makes of a map, back and forth; what two maps differ in.
-/
import Derived.WalkKit
namespace Go.Proofs.Ytmijjaihedbjgaa.Mps

/-- A change: where, from which state, to which one. -/
abbrev Ch := Int × Int × Int
/-- A map: its epoch and its states. -/
abbrev Mp := Int × List Int
/-- A step: its epoch and its changes. -/
abbrev Sp := Int × List Ch

def okM (m : Mp) : Prop := 0 ≤ m.1 ∧ m.1 ≤ 1099511627776 ∧ m.2.length ≤ 400
instance (m : Mp) : Decidable (okM m) := by unfold okM; infer_instance
/-- Changes as they must be, behind place b. -/
def okC : Int → List Ch → Prop
  | _, [] => True
  | b, c :: cs => b < c.1 ∧ c.2.1 ≠ c.2.2 ∧ okC c.1 cs
def okCdec : (b : Int) → (cs : List Ch) → Decidable (okC b cs)
  | _, [] => isTrue trivial
  | _, c :: cs => @instDecidableAnd _ _ _ (@instDecidableAnd _ _ _ (okCdec c.1 cs))
instance (b : Int) (cs : List Ch) : Decidable (okC b cs) := okCdec b cs
def flip (c : Ch) : Ch := (c.1, c.2.2, c.2.1)
/-- What is wrong with changes of states. -/
def chE : List Ch → List Int → Int
  | [], _ => 0
  | c :: cs, l => if l.length ≤ c.1.toNat then 3 else if l[c.1.toNat]? ≠ some c.2.1 then 7 else chE cs (l.set c.1.toNat c.2.2)
/-- What changes make of states. -/
def chL : List Ch → List Int → List Int
  | [], l => l
  | c :: cs, l => chL cs (l.set c.1.toNat c.2.2)
/-- The changes from states to others. -/
def df : Nat → List Int → List Int → List Ch
  | k, a :: as, b :: bs => if a = b then df (k + 1) as bs else ((k : Int), a, b) :: df (k + 1) as bs
  | _, _, _ => []

theorem okC_mono {b b' : Int} (h : b' ≤ b) : ∀ {cs : List Ch}, okC b cs → okC b' cs
  | [], _ => trivial
  | _ :: _, ⟨h1, h2, h3⟩ => ⟨by omega, h2, h3⟩
theorem okC_flip : ∀ {b : Int} {cs : List Ch}, okC b cs → okC b (cs.map flip)
  | _, [], _ => trivial
  | _, _ :: _, ⟨h1, h2, h3⟩ => ⟨h1, fun e => h2 e.symm, okC_flip h3⟩
theorem flip_flip (cs : List Ch) : (cs.map flip).map flip = cs := by
  rw [List.map_map]
  exact (List.map_congr_left (fun _ _ => rfl)).trans (List.map_id cs)
theorem okC_flip_iff {b : Int} {cs : List Ch} : okC b (cs.map flip) ↔ okC b cs := ⟨fun h => by have := okC_flip h; rwa [flip_flip] at this, okC_flip⟩
theorem chL_len : ∀ (cs : List Ch) (l : List Int), (chL cs l).length = l.length
  | [], _ => rfl
  | c :: cs, l => by rw [chL, chL_len cs]; simp
theorem chE_vals : ∀ (cs : List Ch) (l : List Int), chE cs l = 0 ∨ chE cs l = 3 ∨ chE cs l = 7
  | [], _ => .inl rfl
  | c :: cs, l => by
    unfold chE
    split
    · exact .inr (.inl rfl)
    · split
      · exact .inr (.inr rfl)
      · exact chE_vals cs _

/-! ### Differences -/
theorem df_ok : ∀ (k : Nat) (as bs : List Int) (b : Int), b < k → okC b (df k as bs)
  | k, a :: as, b :: bs, x, hx => by
    unfold df
    split
    · exact df_ok (k + 1) as bs x (by omega)
    · rename_i h
      exact ⟨hx, h, df_ok (k + 1) as bs k (by omega)⟩
  | _, [], _, _, _ => by unfold df; trivial
  | _, _ :: _, [], _, _ => by unfold df; trivial
theorem df_flip : ∀ (k : Nat) (as bs : List Int), (df k as bs).map flip = df k bs as
  | k, a :: as, b :: bs => by
    unfold df
    by_cases h : a = b
    · rw [if_pos h, if_pos h.symm, df_flip (k + 1) as bs]
    · rw [if_neg h, if_neg (fun e => h e.symm), List.map_cons, df_flip (k + 1) as bs]; rfl
  | _, [], [] => rfl
  | _, [], _ :: _ => rfl
  | _, _ :: _, [] => rfl
theorem df_self : ∀ (k : Nat) (l : List Int), df k l l = []
  | _, [] => rfl
  | k, a :: l => by unfold df; rw [if_pos rfl]; exact df_self (k + 1) l
theorem df_len : ∀ (k : Nat) (as bs : List Int), (df k as bs).length ≤ as.length
  | k, a :: as, b :: bs => by
    unfold df
    have := df_len (k + 1) as bs
    split <;> simp <;> omega
  | _, [], _ => by unfold df; simp
  | _, _ :: _, [] => by unfold df; simp
theorem set_mid (p : List Int) (x y : Int) (l : List Int) : (p ++ x :: l).set p.length y = p ++ y :: l := by
  rw [List.set_append_right _ _ (Nat.le_refl _), Nat.sub_self]; rfl
theorem mid_at (p : List Int) (x : Int) (l : List Int) : (p ++ x :: l)[p.length]? = some x := by
  rw [List.getElem?_append_right (Nat.le_refl _), Nat.sub_self]; rfl
/-- The differences, made changes, lead from one to the other. -/
theorem df_go : ∀ (as bs p : List Int), as.length = bs.length → chE (df p.length as bs) (p ++ as) = 0 ∧ chL (df p.length as bs) (p ++ as) = p ++ bs
  | [], [], p, _ => ⟨rfl, rfl⟩
  | [], _ :: _, _, h => by simp at h
  | _ :: _, [], _, h => by simp at h
  | a :: as, b :: bs, p, h => by
    have h2 : as.length = bs.length := by simpa using h
    unfold df
    by_cases e : a = b
    · subst e
      rw [if_pos rfl]
      have := df_go as bs (p ++ [a]) h2
      rw [List.length_append, List.append_assoc, List.append_assoc] at this
      exact this
    · rw [if_neg e]
      have := df_go as bs (p ++ [b]) h2
      rw [List.length_append, List.append_assoc, List.append_assoc] at this
      unfold chE chL
      simp only [Int.toNat_natCast]
      rw [if_neg (by simp), if_neg (by rw [mid_at]; simp), set_mid]
      exact this
/-- Changes that fit are the differences to what they make. -/
theorem ch_df : ∀ (l : List Int) (cs : List Ch) (p : List Int), okC ((p.length : Int) - 1) cs → chE cs (p ++ l) = 0 → ∃ l', l'.length = l.length ∧ chL cs (p ++ l) = p ++ l' ∧ cs = df p.length l l'
  | l, [], p, _, _ => ⟨l, rfl, rfl, (df_self _ _).symm⟩
  | [], c :: cs, p, ⟨h1, _, _⟩, h => by
    unfold chE at h
    rw [if_pos (by simp; omega)] at h
    cases h
  | x :: l, c :: cs, p, ⟨h1, h2, h3⟩, h => by
    by_cases e : c.1 = p.length
    · unfold chE at h
      rw [e, Int.toNat_natCast, if_neg (by simp), mid_at, set_mid] at h
      split at h
      · cases h
      · rename_i hx
        have hx : x = c.2.1 := by simpa using hx
        rw [List.append_cons] at h
        obtain ⟨l', e1, e2, e3⟩ := ch_df l cs (p ++ [c.2.2]) (by rw [List.length_append]; exact okC_mono (by simp; omega) h3) h
        refine ⟨c.2.2 :: l', by simp [e1], ?_, ?_⟩
        · unfold chL
          rw [e, Int.toNat_natCast, set_mid, List.append_cons, e2, List.append_assoc]; rfl
        · unfold df
          rw [hx, if_neg h2, e3, List.length_append, ← e]; rfl
    · rw [List.append_cons] at h
      obtain ⟨l', e1, e2, e3⟩ := ch_df l (c :: cs) (p ++ [x]) ⟨by simp; omega, h2, h3⟩ h
      refine ⟨x :: l', by simp [e1], ?_, ?_⟩
      · rw [List.append_cons, e2, List.append_assoc]; rfl
      · unfold df
        rw [if_pos rfl, e3, List.length_append]; rfl

/-! ### Steps -/
def apE (m : Mp) (s : Sp) : Int := if ¬ okM m ∨ ¬ okC (-1) s.2 then 1 else if m.1 = 1099511627776 then 4 else if s.1 ≠ m.1 then 2 else chE s.2 m.2
def apM (m : Mp) (s : Sp) : Mp := if apE m s = 0 then (m.1 + 1, chL s.2 m.2) else (0, [])
def unE (m : Mp) (s : Sp) : Int := if ¬ okM m ∨ ¬ okC (-1) s.2 then 1 else if m.1 = 0 ∨ s.1 ≠ m.1 - 1 then 2 else chE (s.2.map flip) m.2
def unM (m : Mp) (s : Sp) : Mp := if unE m s = 0 then (m.1 - 1, chL (s.2.map flip) m.2) else (0, [])
/-- What is wrong with steps one after another, and what they make. -/
def stE : Mp → List Sp → Int
  | _, [] => 0
  | m, s :: l => if apE m s ≠ 0 then apE m s else stE (apM m s) l
def stM : Mp → List Sp → Mp
  | m, [] => m
  | m, s :: l => stM (apM m s) l
def alE (m : Mp) (l : List Sp) : Int := if ¬ okM m then 1 else stE m l
def alM (m : Mp) (l : List Sp) : Mp := if alE m l = 0 then stM m l else (0, [])
def dfE (a b : Mp) : Int := if ¬ okM a ∨ ¬ okM b ∨ a.2.length ≠ b.2.length then 1 else if b.1 ≠ a.1 + 1 then 2 else 0
def dfS (a b : Mp) : Sp := if dfE a b = 0 then (a.1, df 0 a.2 b.2) else (0, [])

theorem apE_zero {m : Mp} {s : Sp} : apE m s = 0 ↔ okM m ∧ okC (-1) s.2 ∧ m.1 ≠ 1099511627776 ∧ s.1 = m.1 ∧ chE s.2 m.2 = 0 := by
  unfold apE
  constructor
  · intro h
    split at h
    · cases h
    · rename_i h1
      split at h
      · cases h
      · rename_i h2
        split at h
        · cases h
        · rename_i h3
          exact ⟨Classical.byContradiction (fun e => h1 (.inl e)), Classical.byContradiction (fun e => h1 (.inr e)), h2, Classical.byContradiction h3, h⟩
  · rintro ⟨h1, h2, h3, h4, h5⟩
    rw [if_neg (by rintro (h | h) <;> contradiction), if_neg h3, if_neg (by rw [h4]; simp)]
    exact h5
theorem unE_zero {m : Mp} {s : Sp} : unE m s = 0 ↔ okM m ∧ okC (-1) s.2 ∧ m.1 ≠ 0 ∧ s.1 = m.1 - 1 ∧ chE (s.2.map flip) m.2 = 0 := by
  unfold unE
  constructor
  · intro h
    split at h
    · cases h
    · rename_i h1
      split at h
      · cases h
      · rename_i h2
        exact ⟨Classical.byContradiction (fun e => h1 (.inl e)), Classical.byContradiction (fun e => h1 (.inr e)), fun e => h2 (.inl e), Classical.byContradiction (fun e => h2 (.inr e)), h⟩
  · rintro ⟨h1, h2, h3, h4, h5⟩
    rw [if_neg (by rintro (h | h) <;> contradiction), if_neg (by rintro (h | h) <;> contradiction)]
    exact h5
theorem dfE_zero {a b : Mp} : dfE a b = 0 ↔ okM a ∧ okM b ∧ a.2.length = b.2.length ∧ b.1 = a.1 + 1 := by
  unfold dfE
  constructor
  · intro h
    split at h
    · cases h
    · rename_i h1
      split at h
      · cases h
      · rename_i h2
        exact ⟨Classical.byContradiction (fun e => h1 (.inl e)), Classical.byContradiction (fun e => h1 (.inr (.inl e))), Classical.byContradiction (fun e => h1 (.inr (.inr e))), Classical.byContradiction h2⟩
  · rintro ⟨h1, h2, h3, h4⟩
    rw [if_neg (by rintro (h | h | h) <;> contradiction), if_neg (by rw [h4]; simp)]
theorem apE_vals (m : Mp) (s : Sp) : apE m s = 0 ∨ apE m s = 1 ∨ apE m s = 2 ∨ apE m s = 3 ∨ apE m s = 4 ∨ apE m s = 7 := by
  unfold apE
  have := chE_vals s.2 m.2
  split
  · simp
  · split
    · simp
    · split
      · simp
      · rcases this with h | h | h <;> simp [h]
theorem unE_vals (m : Mp) (s : Sp) : unE m s = 0 ∨ unE m s = 1 ∨ unE m s = 2 ∨ unE m s = 3 ∨ unE m s = 7 := by
  unfold unE
  have := chE_vals (s.2.map flip) m.2
  split
  · simp
  · split
    · simp
    · rcases this with h | h | h <;> simp [h]
theorem dfE_vals (a b : Mp) : dfE a b = 0 ∨ dfE a b = 1 ∨ dfE a b = 2 := by
  unfold dfE
  split
  · simp
  · split <;> simp
theorem stE_vals : ∀ (m : Mp) (l : List Sp), stE m l = 0 ∨ stE m l = 1 ∨ stE m l = 2 ∨ stE m l = 3 ∨ stE m l = 4 ∨ stE m l = 7
  | _, [] => .inl rfl
  | m, s :: l => by
    unfold stE
    split
    · exact apE_vals m s
    · exact stE_vals _ l
theorem alE_vals (m : Mp) (l : List Sp) : alE m l = 0 ∨ alE m l = 1 ∨ alE m l = 2 ∨ alE m l = 3 ∨ alE m l = 4 ∨ alE m l = 7 := by
  unfold alE
  split
  · simp
  · exact stE_vals m l
theorem apM_of {m : Mp} {s : Sp} (h : apE m s = 0) : apM m s = (m.1 + 1, chL s.2 m.2) := if_pos h
theorem unM_of {m : Mp} {s : Sp} (h : unE m s = 0) : unM m s = (m.1 - 1, chL (s.2.map flip) m.2) := if_pos h
theorem apM_bad {m : Mp} {s : Sp} (h : apE m s ≠ 0) : apM m s = (0, []) := if_neg h
theorem unM_bad {m : Mp} {s : Sp} (h : unE m s ≠ 0) : unM m s = (0, []) := if_neg h
theorem dfS_of {a b : Mp} (h : dfE a b = 0) : dfS a b = (a.1, df 0 a.2 b.2) := if_pos h
theorem dfS_bad {a b : Mp} (h : dfE a b ≠ 0) : dfS a b = (0, []) := if_neg h
theorem apM_ok {m : Mp} {s : Sp} (h : apE m s = 0) : okM (apM m s) := by
  obtain ⟨⟨h1, h2, h3⟩, _, h4, _, _⟩ := apE_zero.1 h
  rw [apM_of h]
  exact ⟨by simp; omega, by simp; omega, by simp [chL_len]; omega⟩
theorem unM_ok {m : Mp} {s : Sp} (h : unE m s = 0) : okM (unM m s) := by
  obtain ⟨⟨h1, h2, h3⟩, _, h4, _, _⟩ := unE_zero.1 h
  rw [unM_of h]
  exact ⟨by simp; omega, by simp; omega, by simp [chL_len]; omega⟩

/-- What is unlike, applied, makes them alike; and undone it is as it was. -/
theorem diff_back {a b : Mp} (h : dfE a b = 0) : apE a (dfS a b) = 0 ∧ apM a (dfS a b) = b ∧ unE b (dfS a b) = 0 ∧ unM b (dfS a b) = a := by
  obtain ⟨h1, h2, h3, h4⟩ := dfE_zero.1 h
  rw [dfS_of h]
  have g := df_go a.2 b.2 [] h3
  have g' := df_go b.2 a.2 [] h3.symm
  simp only [List.length_nil, List.nil_append] at g g'
  have e1 : apE a (a.1, df 0 a.2 b.2) = 0 := apE_zero.2 ⟨h1, df_ok 0 _ _ _ (by omega), by have := h2.2.1; omega, rfl, g.1⟩
  have e2 : unE b (a.1, df 0 a.2 b.2) = 0 := unE_zero.2 ⟨h2, df_ok 0 _ _ _ (by omega), by have := h1.1; omega, by simp; omega, by rw [df_flip]; exact g'.1⟩
  refine ⟨e1, ?_, e2, ?_⟩
  · rw [apM_of e1, g.2, ← h4]
  · rw [unM_of e2, df_flip, g'.2, h4]
    exact Prod.ext (by simp) rfl
/-- What was applied is the difference. -/
theorem apply_diff {m : Mp} {s : Sp} (h : apE m s = 0) : dfE m (apM m s) = 0 ∧ dfS m (apM m s) = s := by
  obtain ⟨h1, h2, h3, h4, h5⟩ := apE_zero.1 h
  have e : dfE m (apM m s) = 0 := dfE_zero.2 ⟨h1, apM_ok h, by rw [apM_of h]; simp [chL_len], by rw [apM_of h]⟩
  obtain ⟨l', e1, e2, e3⟩ := ch_df m.2 s.2 [] (okC_mono (by simp) h2) h5
  simp only [List.length_nil, List.nil_append] at e2 e3
  refine ⟨e, ?_⟩
  rw [dfS_of e, apM_of h]
  show (m.1, df 0 m.2 (chL s.2 m.2)) = s
  rw [e2, ← e3, ← h4]
theorem apply_undo {m : Mp} {s : Sp} (h : apE m s = 0) : unE (apM m s) s = 0 ∧ unM (apM m s) s = m := by
  obtain ⟨e1, e2⟩ := apply_diff h
  have := diff_back e1
  rw [e2] at this
  exact this.2.2
theorem undo_diff {m : Mp} {s : Sp} (h : unE m s = 0) : dfE (unM m s) m = 0 ∧ dfS (unM m s) m = s := by
  obtain ⟨h1, h2, h3, h4, h5⟩ := unE_zero.1 h
  have e : dfE (unM m s) m = 0 := dfE_zero.2 ⟨unM_ok h, h1, by rw [unM_of h]; simp [chL_len], by rw [unM_of h]; simp⟩
  obtain ⟨l', e1, e2, e3⟩ := ch_df m.2 (s.2.map flip) [] (okC_mono (by simp) (okC_flip h2)) h5
  simp only [List.length_nil, List.nil_append] at e2 e3
  refine ⟨e, ?_⟩
  rw [dfS_of e, unM_of h]
  show (m.1 - 1, df 0 (chL (s.2.map flip) m.2) m.2) = s
  rw [e2, ← df_flip, ← e3, flip_flip, ← h4]
theorem undo_apply {m : Mp} {s : Sp} (h : unE m s = 0) : apE (unM m s) s = 0 ∧ apM (unM m s) s = m := by
  obtain ⟨e1, e2⟩ := undo_diff h
  have := diff_back e1
  rw [e2] at this
  exact ⟨this.1, this.2.1⟩
/-- No step twice. -/
theorem apply_twice {m : Mp} {s : Sp} (h : apE m s = 0) : (apE (apM m s) s = 2 ∨ apE (apM m s) s = 4) ∧ apE m (s.1 + 1, s.2) = 2 := by
  obtain ⟨h1, h2, h3, h4, h5⟩ := apE_zero.1 h
  have h6 := apM_ok h
  have e : (apM m s).1 = m.1 + 1 := by rw [apM_of h]
  constructor
  · unfold apE
    rw [if_neg (by rintro (h | h) <;> contradiction)]
    split
    · exact .inr rfl
    · rw [if_pos (by rw [e]; omega)]; exact .inl rfl
  · unfold apE
    rw [if_neg (by rintro (h | h) <;> contradiction), if_neg h3, if_pos (by simp; omega)]

/-! ### Steps one after another -/
theorem stE_app : ∀ (m : Mp) (l k : List Sp), stE m (l ++ k) = if stE m l ≠ 0 then stE m l else stE (stM m l) k
  | _, [], _ => by simp [stE, stM]
  | m, s :: l, k => by
    simp only [List.cons_append, stE, stM]
    by_cases h : apE m s = 0
    · simp only [h, ne_eq, not_true_eq_false, if_false]
      exact stE_app (apM m s) l k
    · simp [h]
theorem stM_app : ∀ (m : Mp) (l k : List Sp), stM m (l ++ k) = stM (stM m l) k
  | _, [], _ => rfl
  | m, s :: l, k => stM_app (apM m s) l k
theorem stM_ok : ∀ {m : Mp} {l : List Sp}, okM m → stE m l = 0 → okM (stM m l) ∧ (stM m l).1 = m.1 + l.length
  | m, [], h, _ => ⟨h, by simp [stM]⟩
  | m, s :: l, h, e => by
    unfold stE at e
    by_cases e1 : apE m s = 0
    · rw [if_neg (by simp [e1])] at e
      obtain ⟨h1, h2⟩ := stM_ok (apM_ok e1) e
      refine ⟨h1, ?_⟩
      show (stM (apM m s) l).1 = _
      rw [h2, apM_of e1]
      simp
      omega
    · rw [if_pos e1] at e
      exact absurd e e1
theorem alM_of {m : Mp} {l : List Sp} (h : alE m l = 0) : alM m l = stM m l := if_pos h
theorem alM_bad {m : Mp} {l : List Sp} (h : alE m l ≠ 0) : alM m l = (0, []) := if_neg h
theorem alE_zero {m : Mp} {l : List Sp} : alE m l = 0 ↔ okM m ∧ stE m l = 0 := by
  unfold alE
  by_cases h : okM m
  · rw [if_neg (by simpa using h)]; simp [h]
  · rw [if_pos h]; simp [h]
/-- So many steps, and the rest, are all. -/
theorem al_parts {m : Mp} {l k : List Sp} : (alE m l ≠ 0 → alE m (l ++ k) = alE m l) ∧ (alE m l = 0 → alE (alM m l) k = alE m (l ++ k) ∧ alM (alM m l) k = alM m (l ++ k)) := by
  by_cases h : okM m
  · have e1 : ∀ x, alE m x = stE m x := fun x => by unfold alE; rw [if_neg (by simpa using h)]
    refine ⟨fun e => ?_, fun e => ?_⟩
    · rw [e1] at e
      rw [e1, e1, stE_app, if_pos e]
    · have e2 := e
      rw [e1] at e2
      have hk := (stM_ok h e2).1
      have e3 : alE (alM m l) k = alE m (l ++ k) := by
        rw [alM_of e, e1, stE_app, if_neg (by simp [e2])]
        unfold alE
        rw [if_neg (by simpa using hk)]
      refine ⟨e3, ?_⟩
      unfold alM at *
      rw [e3, if_pos e, stM_app]
  · have e1 : ∀ x, alE m x = 1 := fun x => by unfold alE; rw [if_pos h]
    refine ⟨fun _ => by rw [e1, e1], fun e => ?_⟩
    rw [e1] at e; cases e
theorem al_epoch {m : Mp} {l : List Sp} (h : alE m l = 0) : (alM m l).1 = m.1 + l.length := by
  obtain ⟨h1, h2⟩ := alE_zero.1 h
  rw [alM_of h]
  exact (stM_ok h1 h2).2
theorem alM_okM {m : Mp} {l : List Sp} (h : alE m l = 0) : okM (alM m l) := by
  obtain ⟨h1, h2⟩ := alE_zero.1 h
  rw [alM_of h]
  exact (stM_ok h1 h2).1
end Go.Proofs.Ytmijjaihedbjgaa.Mps
