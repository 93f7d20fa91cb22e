/-
  Package logs, pure: valid logs, the best one, what two have in common, which keys are to be had anew.
-/
import Derived.WalkKit
namespace Go.Proofs.Ytmnhhfhdaagmhaa.Lg
set_option linter.unusedVariables false

/-- An entry: its epoch, number, key. -/
abbrev En := Int × Int × Int
def okFrom : Int → Int → List En → Bool
  | _, _, [] => true
  | e, n, x :: l => decide (e ≤ x.1) && decide (n < x.2.1) && okFrom x.1 x.2.1 l
def okL (l : List En) : Bool := decide (l.length ≤ 400) && okFrom 0 0 l
def higher (a b : En) : Bool := decide (b.1 < a.1) || (decide (a.1 = b.1) && decide (b.2.1 < a.2.1))
/-- Log x is as high as all of l. -/
def isTop (l : List (List En)) (x : List En) : Bool :=
  match x.getLast? with
  | none => false
  | some t => l.all (fun y => match y.getLast? with | none => true | some u => !higher u t)
def bestE (l : List (List En)) : Int := if 16 < l.length then 2 else if l.all okL = false then 1 else if l.all (fun x => x.isEmpty) = true then 3 else 0
def bestK (l : List (List En)) : Nat := if bestE l = 0 then l.findIdx (isTop l) else 0
def com : List En → List En → Nat
  | a :: l, b :: k => if a = b then com l k + 1 else 0
  | _, _ => 0
def lgE (a b : List En) : Int := if okL a = true ∧ okL b = true then 0 else 1
/-- ks: the keys of l, rising, each once. -/
def IsKeys (ks : List Int) (l : List En) : Prop := ks.Pairwise (· < ·) ∧ ∀ x, x ∈ ks ↔ x ∈ l.map (fun e => e.2.2)
def lastN (l : List En) (x : Int) : Int := l.foldl (fun a e => if e.2.2 = x then e.2.1 else a) 0
/-- What is behind the common beginning. -/
def rest2 (a b : List En) : List En := a.drop (com a b) ++ b.drop (com a b)

/-! ### Valid logs -/
theorem okFrom_mono {e e' n n' : Int} : ∀ {l : List En}, okFrom e n l = true → e' ≤ e → n' ≤ n → okFrom e' n' l = true
  | [], _, _, _ => rfl
  | x :: l, h, h1, h2 => by
    simp only [okFrom, Bool.and_eq_true, decide_eq_true_eq] at h ⊢
    exact ⟨⟨by omega, by omega⟩, h.2⟩
theorem okFrom_take {e n : Int} : ∀ {l : List En} (j : Nat), okFrom e n l = true → okFrom e n (l.take j) = true
  | [], j, _ => by simp [okFrom]
  | x :: l, 0, _ => by simp [okFrom]
  | x :: l, j + 1, h => by
    simp only [okFrom, Bool.and_eq_true, decide_eq_true_eq, List.take_succ_cons] at h ⊢
    exact ⟨h.1, okFrom_take j h.2⟩
theorem okL_take {l : List En} (j : Nat) (h : okL l = true) : okL (l.take j) = true := by
  unfold okL at h ⊢
  rw [Bool.and_eq_true, decide_eq_true_eq] at h ⊢
  exact ⟨by rw [List.length_take]; omega, okFrom_take j h.2⟩
theorem okL_len {l : List En} (h : okL l = true) : l.length ≤ 400 := by
  unfold okL at h
  rw [Bool.and_eq_true, decide_eq_true_eq] at h
  exact h.1
/-- The loop of a test from the front. -/
theorem okFrom_snoc (e n : Int) : ∀ (l : List En) (x : En), okFrom e n (l ++ [x]) = (okFrom e n l && (decide ((l.getLast?.map (·.1)).getD e ≤ x.1) && decide ((l.getLast?.map (·.2.1)).getD n < x.2.1)))
  | [], x => by
    show (decide (e ≤ x.1) && decide (n < x.2.1) && true) = (true && (decide (e ≤ x.1) && decide (n < x.2.1)))
    rw [Bool.and_true, Bool.true_and]
  | y :: l, x => by
    rw [List.cons_append, okFrom, okFrom_snoc y.1 y.2.1 l x, okFrom]
    have : (y :: l).getLast? = some (l.getLast?.getD y) := by rw [List.getLast?_cons]
    rw [this]
    cases l.getLast? with
    | none => simp [Bool.and_assoc]
    | some z => simp [Bool.and_assoc]

/-! ### In common -/
theorem com_comm : ∀ a b : List En, com a b = com b a
  | [], [] => rfl
  | [], _ :: _ => rfl
  | _ :: _, [] => rfl
  | x :: a, y :: b => by
    unfold com
    by_cases h : x = y
    · rw [if_pos h, if_pos h.symm, com_comm a b]
    · rw [if_neg h, if_neg (fun e => h e.symm)]
theorem com_le : ∀ a b : List En, com a b ≤ a.length ∧ com a b ≤ b.length
  | [], [] => by simp [com]
  | [], _ :: _ => by simp [com]
  | _ :: _, [] => by simp [com]
  | x :: a, y :: b => by
    unfold com
    have := com_le a b
    split
    · simp only [List.length_cons]; omega
    · simp
theorem com_take : ∀ a b : List En, a.take (com a b) = b.take (com a b)
  | [], [] => rfl
  | [], _ :: _ => by simp [com]
  | _ :: _, [] => by simp [com]
  | x :: a, y :: b => by
    unfold com
    split
    · rename_i h; rw [List.take_succ_cons, List.take_succ_cons, com_take a b, h]
    · simp
theorem com_max : ∀ (a b : List En) (n : Nat), n ≤ a.length → n ≤ b.length → a.take n = b.take n → n ≤ com a b
  | _, _, 0, _, _, _ => Nat.zero_le _
  | [], _, n + 1, h, _, _ => by simp at h
  | _ :: _, [], n + 1, _, h, _ => by simp at h
  | x :: a, y :: b, n + 1, h1, h2, h => by
    rw [List.take_succ_cons, List.take_succ_cons, List.cons.injEq] at h
    unfold com
    rw [if_pos h.1]
    have := com_max a b n (by simpa using h1) (by simpa using h2) h.2
    omega
theorem com_self (a : List En) : com a a = a.length := by
  have h1 := (com_le a a).1
  have h2 := com_max a a a.length (Nat.le_refl _) (Nat.le_refl _) rfl
  omega
theorem com_prefix (a : List En) {j : Nat} (hj : j ≤ a.length) : com (a.take j) a = j := by
  have h1 := (com_le (a.take j) a).1
  rw [List.length_take] at h1
  have h2 := com_max (a.take j) a j (by rw [List.length_take]; omega) hj (by rw [List.take_take]; congr 1; omega)
  omega
theorem com_three (a b c : List En) : min (com a b) (com b c) ≤ com a c := by
  have h1 := com_le a b
  have h2 := com_le b c
  refine com_max a c _ (by omega) (by omega) ?_
  have e1 : a.take (min (com a b) (com b c)) = b.take (min (com a b) (com b c)) := by
    have := congrArg (List.take (min (com a b) (com b c))) (com_take a b)
    rw [List.take_take, List.take_take] at this
    rwa [show min (min (com a b) (com b c)) (com a b) = min (com a b) (com b c) by omega] at this
  have e2 : b.take (min (com a b) (com b c)) = c.take (min (com a b) (com b c)) := by
    have := congrArg (List.take (min (com a b) (com b c))) (com_take b c)
    rw [List.take_take, List.take_take] at this
    rwa [show min (min (com a b) (com b c)) (com b c) = min (com a b) (com b c) by omega] at this
  exact e1.trans e2
/-- A step from the front: the next ones are the same, or that is all. -/
theorem com_same {a b : List En} {n : Nat} {x : En} (h : n ≤ com a b) (ha : a[n]? = some x) (hb : b[n]? = some x) : n + 1 ≤ com a b := by
  obtain ⟨la, ea⟩ := List.getElem?_eq_some_iff.1 ha
  obtain ⟨lb, eb⟩ := List.getElem?_eq_some_iff.1 hb
  refine com_max a b (n + 1) (by omega) (by omega) ?_
  have h0 : a.take n = b.take n := by
    have := congrArg (List.take n) (com_take a b)
    rw [List.take_take, List.take_take, Nat.min_eq_left h] at this
    exact this
  rw [List.take_add_one, List.take_add_one, h0, ha, hb]
theorem com_stop {a b : List En} {n : Nat} {x y : En} (h : n ≤ com a b) (ha : a[n]? = some x) (hb : b[n]? = some y) (hne : x ≠ y) : com a b = n := by
  have h1 := com_le a b
  rcases Nat.lt_or_ge n (com a b) with h2 | h2
  · have := congrArg (fun l => l[n]?) (com_take a b)
    simp only [List.getElem?_take_of_lt h2] at this
    rw [ha, hb] at this
    exact absurd (by injection this) hne
  · omega

/-! ### Keys -/
theorem isKeys_unique {ks js : List Int} {l k : List En} (h1 : IsKeys ks l) (h2 : IsKeys js k) (h : ∀ x, x ∈ l.map (fun e => e.2.2) ↔ x ∈ k.map (fun e => e.2.2)) : ks = js := by
  have nd : ∀ {l : List Int}, l.Pairwise (· < ·) → l.Nodup := fun h => h.imp (fun h e => by omega)
  refine List.Perm.eq_of_pairwise (le := fun a b : Int => a ≤ b) (fun a b _ _ h1 h2 => by omega) (h1.1.imp (fun h => by omega)) (h2.1.imp (fun h => by omega)) ((List.perm_ext_iff_of_nodup (nd h1.1) (nd h2.1)).2 fun x => ?_)
  rw [h1.2, h2.2, h]
theorem isKeys_nil {ks : List Int} (h : IsKeys ks []) : ks = [] := by
  cases ks with
  | nil => rfl
  | cons a t => have := (h.2 a).1 (by simp); simp at this
theorem lastN_app (a b : List En) (x : Int) : lastN (a ++ b) x = b.foldl (fun a e => if e.2.2 = x then e.2.1 else a) (lastN a x) := by unfold lastN; rw [List.foldl_append]
theorem last_skip {x : Int} : ∀ (b : List En) (v : Int), x ∉ b.map (fun e => e.2.2) → b.foldl (fun a e => if e.2.2 = x then e.2.1 else a) v = v
  | [], _, _ => rfl
  | e :: b, v, h => by
    rw [List.map_cons, List.mem_cons, not_or] at h
    rw [List.foldl_cons, if_neg (fun e' => h.1 e'.symm)]
    exact last_skip b v h.2
/-- A key that is not told: it is in both, and the same last. -/
theorem told {a b : List En} {x : Int} (hx : x ∉ (rest2 a b).map (fun e => e.2.2)) : (x ∈ a.map (fun e => e.2.2) ↔ x ∈ b.map (fun e => e.2.2)) ∧ lastN a x = lastN b x := by
  unfold rest2 at hx
  rw [List.map_append, List.mem_append, not_or] at hx
  have ha : a = a.take (com a b) ++ a.drop (com a b) := (List.take_append_drop _ _).symm
  have hb : b = a.take (com a b) ++ b.drop (com a b) := by rw [com_take a b]; exact (List.take_append_drop _ _).symm
  generalize hp : a.take (com a b) = p at ha hb
  generalize a.drop (com a b) = r at ha hx
  generalize b.drop (com a b) = q at hb hx
  subst ha hb
  constructor
  · rw [List.map_append, List.map_append, List.mem_append, List.mem_append]
    exact ⟨fun h => h.elim .inl (fun h => absurd h hx.1), fun h => h.elim .inl (fun h => absurd h hx.2)⟩
  · rw [lastN_app, lastN_app, last_skip _ _ hx.1, last_skip _ _ hx.2]
theorem last_snoc (l : List En) (y : En) (x : Int) : lastN (l ++ [y]) x = if y.2.2 = x then y.2.1 else lastN l x := by rw [lastN_app]; rfl
theorem rest_self (a : List En) : rest2 a a = [] := by unfold rest2; rw [com_self]; simp
theorem rest_prefix (a : List En) {j : Nat} (hj : j ≤ a.length) : (a.take j).drop (com (a.take j) a) = [] := by rw [com_prefix a hj, List.drop_take]; simp

/-- The keys of l, rising. -/
def ins (x : Int) : List Int → List Int
  | [] => [x]
  | y :: t => if x < y then x :: y :: t else if x = y then y :: t else y :: ins x t
def keysOf (l : List En) : List Int := l.foldr (fun e ks => ins e.2.2 ks) []
theorem mem_ins {x z : Int} : ∀ {l : List Int}, z ∈ ins x l ↔ z = x ∨ z ∈ l
  | [] => by simp [ins]
  | y :: t => by
    unfold ins
    split
    · simp
    · split
      · rename_i h; subst h; simp
      · rw [List.mem_cons, mem_ins, List.mem_cons]
        constructor
        · rintro (h | h | h)
          · exact .inr (.inl h)
          · exact .inl h
          · exact .inr (.inr h)
        · rintro (h | h | h)
          · exact .inr (.inl h)
          · exact .inl h
          · exact .inr (.inr h)
theorem ins_sorted {x : Int} : ∀ {l : List Int}, l.Pairwise (· < ·) → (ins x l).Pairwise (· < ·)
  | [], _ => by simp [ins]
  | y :: t, h => by
    unfold ins
    split
    · rename_i hx
      rw [List.pairwise_cons]
      refine ⟨fun z hz => ?_, h⟩
      rcases List.mem_cons.1 hz with rfl | hz
      · exact hx
      · have := (List.pairwise_cons.1 h).1 z hz; omega
    · split
      · exact h
      · rename_i h1 h2
        rw [List.pairwise_cons] at h ⊢
        refine ⟨fun z hz => ?_, ins_sorted h.2⟩
        rcases mem_ins.1 hz with rfl | hz
        · omega
        · exact h.1 z hz
theorem isKeys_of : ∀ l : List En, IsKeys (keysOf l) l
  | [] => ⟨by simp [keysOf], fun x => by simp [keysOf]⟩
  | e :: l => by
    have ih := isKeys_of l
    refine ⟨ins_sorted ih.1, fun x => ?_⟩
    show x ∈ ins e.2.2 (keysOf l) ↔ _
    rw [mem_ins, ih.2, List.map_cons, List.mem_cons]
theorem ins_len (x : Int) : ∀ l : List Int, (ins x l).length ≤ l.length + 1
  | [] => by simp [ins]
  | y :: t => by
    unfold ins
    split
    · simp
    · split
      · simp
      · have := ins_len x t; simp; omega
theorem keysOf_len : ∀ l : List En, (keysOf l).length ≤ l.length
  | [] => by simp [keysOf]
  | e :: l => by
    have h1 := keysOf_len l
    have h2 := ins_len e.2.2 (keysOf l)
    show (ins e.2.2 (keysOf l)).length ≤ _
    simp; omega

/-! ### The best -/
theorem higher_irrefl (a : En) : higher a a = false := by simp [higher]
theorem higher_trans {a b c : En} (h : higher a b = false) (k : higher b c = false) : higher a c = false := by
  simp only [higher, Bool.or_eq_false_iff, Bool.and_eq_false_iff, decide_eq_false_iff_not] at h k ⊢
  omega
theorem higher_total {a b : En} (h : higher a b = true) : higher b a = false := by
  simp only [higher, Bool.or_eq_true, Bool.and_eq_true, Bool.or_eq_false_iff, Bool.and_eq_false_iff, decide_eq_true_eq, decide_eq_false_iff_not] at h ⊢
  omega
theorem isTop_iff {l : List (List En)} {x : List En} : isTop l x = true ↔ ∃ t, x.getLast? = some t ∧ ∀ y ∈ l, ∀ u, y.getLast? = some u → higher u t = false := by
  unfold isTop
  cases x.getLast? with
  | none => simp
  | some t =>
    simp only [List.all_eq_true, Option.some.injEq, exists_eq_left']
    refine forall_congr' fun y => forall_congr' fun hy => ?_
    cases y.getLast? with
    | none => simp
    | some u => simp
theorem top_exists : ∀ {l : List (List En)}, l.all (fun x => x.isEmpty) = false → ∃ x ∈ l, isTop l x = true
  | [], h => by simp at h
  | x :: l, h => by
    by_cases hl : l.all (fun x => x.isEmpty) = true
    · have hx : x.isEmpty = false := by
        rw [List.all_cons, hl, Bool.and_true] at h
        exact h
      have hx' : x ≠ [] := by intro e; rw [e] at hx; cases hx
      refine ⟨x, by simp, isTop_iff.2 ⟨x.getLast hx', List.getLast?_eq_some_getLast hx', fun y hy u hu => ?_⟩⟩
      rcases List.mem_cons.1 hy with rfl | hy
      · rw [List.getLast?_eq_some_getLast hx'] at hu
        injection hu with hu
        rw [← hu]; exact higher_irrefl _
      · have := List.all_eq_true.1 hl y hy
        rw [List.isEmpty_iff] at this
        rw [this] at hu; simp at hu
    · obtain ⟨z, hz, ht⟩ := top_exists (l := l) (by simpa using hl)
      obtain ⟨t, h1, h2⟩ := isTop_iff.1 ht
      by_cases hx : x = []
      · refine ⟨z, by simp [hz], isTop_iff.2 ⟨t, h1, fun y hy u hu => ?_⟩⟩
        rcases List.mem_cons.1 hy with rfl | hy
        · rw [hx] at hu; simp at hu
        · exact h2 y hy u hu
      · cases hh : higher (x.getLast hx) t with
        | false =>
          refine ⟨z, by simp [hz], isTop_iff.2 ⟨t, h1, fun y hy u hu => ?_⟩⟩
          rcases List.mem_cons.1 hy with rfl | hy
          · rw [List.getLast?_eq_some_getLast hx] at hu
            injection hu with hu
            rw [← hu]; exact hh
          · exact h2 y hy u hu
        | true =>
          refine ⟨x, by simp, isTop_iff.2 ⟨x.getLast hx, List.getLast?_eq_some_getLast hx, fun y hy u hu => ?_⟩⟩
          rcases List.mem_cons.1 hy with rfl | hy
          · rw [List.getLast?_eq_some_getLast hx] at hu
            injection hu with hu
            rw [← hu]; exact higher_irrefl _
          · exact higher_trans (h2 y hy u hu) (higher_total hh)
/-- The best is there, is the first that is as high as all. -/
theorem best_facts {l : List (List En)} (h : bestE l = 0) : ∃ x, l[bestK l]? = some x ∧ isTop l x = true ∧ bestK l < l.length ∧ ∀ j y, j < bestK l → l[j]? = some y → isTop l y = false := by
  have h0 := h
  unfold bestE at h
  split at h
  · cases h
  split at h
  · cases h
  split at h
  · cases h
  rename_i h3
  obtain ⟨x, hx, ht⟩ := top_exists (l := l) (by simpa using h3)
  unfold bestK
  rw [if_pos h0]
  have hlt : l.findIdx (isTop l) < l.length := List.findIdx_lt_length.2 ⟨x, hx, ht⟩
  refine ⟨l[l.findIdx (isTop l)], List.getElem?_eq_getElem hlt, List.findIdx_getElem (w := hlt), hlt, fun j y hj hy => ?_⟩
  obtain ⟨hj', rfl⟩ := List.getElem?_eq_some_iff.1 hy
  simpa using List.not_of_lt_findIdx hj
theorem best_ok {l : List (List En)} (h : bestE l = 0) : l.length ≤ 16 ∧ ∀ x ∈ l, okL x = true := by
  unfold bestE at h
  split at h
  · cases h
  split at h
  · cases h
  rename_i h1 h2
  refine ⟨by omega, fun x hx => ?_⟩
  have h2 : l.all okL = true := by simpa using h2
  exact List.all_eq_true.1 h2 x hx
theorem bestE_vals (l : List (List En)) : bestE l = 0 ∨ bestE l = 1 ∨ bestE l = 2 ∨ bestE l = 3 := by
  unfold bestE
  split
  · simp
  split
  · simp
  split <;> simp
/-- All logs the same, none of them empty. -/
theorem best_same {n : Nat} {x : List En} (h0 : 0 < n) (h16 : n ≤ 16) (hx : okL x = true) (hne : x ≠ []) : bestE (List.replicate n x) = 0 ∧ bestK (List.replicate n x) = 0 := by
  have e : bestE (List.replicate n x) = 0 := by
    unfold bestE
    rw [if_neg (by rw [List.length_replicate]; omega), if_neg, if_neg]
    · intro h
      have := List.all_eq_true.1 h x (List.mem_replicate.2 ⟨by omega, rfl⟩)
      rw [List.isEmpty_iff] at this
      exact hne this
    · have : (List.replicate n x).all okL = true := List.all_eq_true.2 fun y hy => by rw [(List.mem_replicate.1 hy).2]; exact hx
      rw [this]; simp
  refine ⟨e, ?_⟩
  obtain ⟨y, hy, ht, hlt, hmin⟩ := best_facts e
  rcases Nat.eq_zero_or_pos (bestK (List.replicate n x)) with h | h
  · exact h
  · have hy' : y = x := by
      rw [List.getElem?_replicate] at hy
      split at hy
      · injection hy with hy; exact hy.symm
      · cases hy
    have := hmin 0 x h (by rw [List.getElem?_replicate, if_pos h0])
    rw [hy', this] at ht; cases ht
end Go.Proofs.Ytmnhhfhdaagmhaa.Lg
