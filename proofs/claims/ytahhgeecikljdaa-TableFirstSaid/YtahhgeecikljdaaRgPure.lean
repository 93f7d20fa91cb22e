/-
  Rings, pure: the order of tokens, the nodes that a key meets, the tokens of nodes.
-/
import Derived.Test.YtahhgeecikljdaaMixPure
namespace Go.Proofs.Ytahhgeecikljdaa.Ring
set_option linter.unusedVariables false
set_option linter.unusedSimpArgs false

abbrev Tk := UInt64 × Int
def ltB (x y : Tk) : Bool := decide (x.1.toNat < y.1.toNat ∨ x.1.toNat = y.1.toNat ∧ x.2 < y.2)
theorem ltB_iff {x y : Tk} : ltB x y = true ↔ x.1.toNat < y.1.toNat ∨ x.1.toNat = y.1.toNat ∧ x.2 < y.2 := by unfold ltB; simp
theorem ltB_not {x y : Tk} : ltB x y = false ↔ ¬ (x.1.toNat < y.1.toNat ∨ x.1.toNat = y.1.toNat ∧ x.2 < y.2) := by unfold ltB; simp
theorem ltB_irr (x : Tk) : ltB x x = false := by rw [ltB_not]; omega
theorem ltB_tr {x y z : Tk} (h1 : ltB x y = true) (h2 : ltB y z = true) : ltB x z = true := by rw [ltB_iff] at *; omega
theorem ltB_ntr {x y z : Tk} (h1 : ltB x y = false) (h2 : ltB y z = false) : ltB x z = false := by rw [ltB_not] at *; omega
theorem ltB_anti {x y : Tk} (h1 : ltB x y = false) (h2 : ltB y x = false) : x = y := by
  rw [ltB_not] at *
  exact Prod.ext (UInt64.toNat_inj.1 (by omega)) (by omega)
theorem ltB_asym {x y : Tk} (h1 : ltB x y = true) : ltB y x = false := by rw [ltB_iff] at h1; rw [ltB_not]; omega

def Sorted (ts : List Tk) : Prop := ts.Pairwise (fun a b => ltB b a = false)
/-- A valid ring. -/
def Right (ts : List Tk) : Prop := ts.length ≤ 400 ∧ Sorted ts
instance (ts : List Tk) : Decidable (Sorted ts) := by unfold Sorted; exact inferInstance
instance (ts : List Tk) : Decidable (Right ts) := by unfold Right; exact inferInstance
theorem Right.filter {ts : List Tk} (h : Right ts) (p : Tk → Bool) : Right (ts.filter p) := ⟨Nat.le_trans (List.length_filter_le _ _) h.1, h.2.filter p⟩
theorem sorted_at {ts : List Tk} (h : Sorted ts) {i j : Nat} {a b : Tk} (hi : ts[i]? = some a) (hj : ts[j]? = some b) (hij : i < j) : ltB b a = false := by
  obtain ⟨h1, rfl⟩ := List.getElem?_eq_some_iff.1 hi
  obtain ⟨h2, rfl⟩ := List.getElem?_eq_some_iff.1 hj
  exact List.pairwise_iff_getElem.1 h i j h1 h2 hij
/-- Sorted from place k on. -/
theorem sorted_drop_succ {ts : List Tk} {k : Nat} {a b : Tk} (ha : ts[k]? = some a) (hb : ts[k + 1]? = some b) (hab : ltB b a = false) (h : Sorted (ts.drop (k + 1))) : Sorted (ts.drop k) := by
  obtain ⟨h1, rfl⟩ := List.getElem?_eq_some_iff.1 ha
  obtain ⟨h2, rfl⟩ := List.getElem?_eq_some_iff.1 hb
  rw [List.drop_eq_getElem_cons h1]
  refine List.pairwise_cons.2 ⟨fun c hc => ?_, h⟩
  rw [List.drop_eq_getElem_cons h2] at h hc
  rcases List.mem_cons.1 hc with rfl | hc
  · exact hab
  · exact ltB_ntr ((List.pairwise_cons.1 h).1 c hc) hab
theorem sorted_take_succ {ts : List Tk} {k : Nat} {a b : Tk} (ha : ts[k]? = some a) (hb : ts[k + 1]? = some b) (hab : ltB b a = false) (h : Sorted (ts.take (k + 1))) : Sorted (ts.take (k + 2)) := by
  obtain ⟨h1, rfl⟩ := List.getElem?_eq_some_iff.1 ha
  obtain ⟨h2, rfl⟩ := List.getElem?_eq_some_iff.1 hb
  rw [List.take_succ_eq_append_getElem h2]
  refine List.pairwise_append.2 ⟨h, by simp, fun c hc d hd => ?_⟩
  simp at hd
  subst hd
  rw [List.take_succ_eq_append_getElem h1] at h hc
  rcases List.mem_append.1 hc with hc | hc
  · exact ltB_ntr hab ((List.pairwise_append.1 h).2.2 c hc _ (by simp))
  · simp at hc; subst hc; exact hab
theorem sorted_short {ts : List Tk} (h : ts.length ≤ 1) : Sorted ts := by
  rcases ts with _ | ⟨a, _ | ⟨b, ts⟩⟩
  · exact List.Pairwise.nil
  · exact List.pairwise_singleton _ _
  · simp at h
theorem not_sorted {ts : List Tk} {k : Nat} {a b : Tk} (ha : ts[k]? = some a) (hb : ts[k + 1]? = some b) (hab : ltB b a = true) : ¬ Sorted ts := fun h => by
  rw [sorted_at h ha hb (by omega)] at hab; cases hab

/-! ### The one sorted order -/
def srt (ts : List Tk) : List Tk := ts.mergeSort (fun x y => !ltB y x)
theorem srt_perm (ts : List Tk) : (srt ts).Perm ts := List.mergeSort_perm _ _
theorem srt_sorted (ts : List Tk) : Sorted (srt ts) := by
  have h := List.pairwise_mergeSort (le := fun x y : Tk => !ltB y x) (fun a b c h1 h2 => by simp at *; exact ltB_ntr h2 h1)
    (fun a b => by cases h : ltB b a <;> simp; exact ltB_asym h) ts
  exact h.imp (fun h => by simpa using h)
theorem sorted_eq {xs ys : List Tk} (h1 : Sorted xs) (h2 : Sorted ys) (hp : xs.Perm ys) : xs = ys :=
  List.Perm.eq_of_pairwise (fun a b _ _ hab hba => (ltB_anti hab hba).symm) h1 h2 hp
theorem srt_eq {xs ys : List Tk} (h : Sorted ys) (hp : ys.Perm xs) : srt xs = ys := sorted_eq (srt_sorted xs) h ((srt_perm xs).trans hp.symm)
theorem srt_of_perm {xs ys : List Tk} (h : xs.Perm ys) : srt xs = srt ys := srt_eq (srt_sorted ys) ((srt_perm ys).trans h.symm)
/-- One token put in its place. -/
theorem srt_insert {xs l : List Tk} {t : Tk} {k : Nat} (hs : l = srt xs) (hk : k ≤ l.length) (hlo : ∀ a, l[k - 1]? = some a → 0 < k → ltB t a = false) (hhi : ∀ b, l[k]? = some b → ltB t b = true) :
    l.take k ++ t :: l.drop k = srt (xs ++ [t]) := by
  subst hs
  have S := srt_sorted xs
  refine (srt_eq ?_ ?_).symm
  · refine List.pairwise_append.2 ⟨S.sublist (List.take_sublist _ _), List.pairwise_cons.2 ⟨fun b hb => ?_, S.sublist (List.drop_sublist _ _)⟩, fun a ha b hb => ?_⟩
    · obtain ⟨j, hj⟩ := List.mem_iff_getElem?.1 hb
      rw [List.getElem?_drop] at hj
      rcases Nat.eq_zero_or_pos j with rfl | h0
      · exact ltB_asym (hhi b hj)
      · have hlt : k < (srt xs).length := by have := (List.getElem?_eq_some_iff.1 hj).1; omega
        have e := List.getElem?_eq_getElem hlt
        exact ltB_ntr (sorted_at S e hj (by omega)) (ltB_asym (hhi _ e))
    · have hta : ltB t a = false := by
        obtain ⟨i, hi⟩ := List.mem_iff_getElem?.1 ha
        have hik := (List.getElem?_eq_some_iff.1 hi).1
        rw [List.length_take] at hik
        rw [List.getElem?_take_of_lt (by omega)] at hi
        have e := List.getElem?_eq_getElem (show k - 1 < (srt xs).length by omega)
        have h1 := hlo _ e (by omega)
        by_cases hh : i = k - 1
        · subst hh; rw [hi] at e; injection e with e; rw [e]; exact h1
        · exact ltB_ntr h1 (sorted_at S hi e (by omega))
      rcases List.mem_cons.1 hb with rfl | hb
      · exact hta
      · obtain ⟨i, hi⟩ := List.mem_iff_getElem?.1 ha
        obtain ⟨j, hj⟩ := List.mem_iff_getElem?.1 hb
        have hik := (List.getElem?_eq_some_iff.1 hi).1
        rw [List.length_take] at hik
        rw [List.getElem?_take_of_lt (by omega)] at hi
        rw [List.getElem?_drop] at hj
        exact sorted_at S hi hj (by omega)
  · have h1 : (List.take k (srt xs) ++ t :: List.drop k (srt xs)).Perm (t :: srt xs) := by
      have := List.perm_middle (a := t) (l₁ := List.take k (srt xs)) (l₂ := List.drop k (srt xs))
      rwa [List.take_append_drop] at this
    exact h1.trans (((srt_perm xs).cons t).trans (List.perm_append_comm (l₁ := [t]) (l₂ := xs)))

/-! ### The tokens of nodes -/
def tok (id : Int) (n : Nat) : Tk := (Mix.two (UInt64.ofNat id.toNat) (UInt64.ofNat n), id)
def raw (ids : List Int) (each : Nat) : List Tk := ids.flatMap (fun id => (List.range each).map (tok id))
theorem raw_snoc (ids : List Int) (x : Int) (each : Nat) : raw (ids ++ [x]) each = raw ids each ++ (List.range each).map (tok x) := by simp [raw]
theorem raw_len (ids : List Int) (each : Nat) : (raw ids each).length = ids.length * each := by
  induction ids with
  | nil => simp [raw]
  | cons x ids ih => simp only [raw, List.flatMap_cons, List.length_append, List.length_map, List.length_range, List.length_cons, Nat.add_mul] at *; omega
theorem toks_succ (id : Int) (n : Nat) : (List.range (n + 1)).map (tok id) = (List.range n).map (tok id) ++ [tok id n] := by
  rw [List.range_succ, List.map_append]; rfl
theorem raw_reverse (ids : List Int) (each : Nat) : (raw ids.reverse each).Perm (raw ids each) := List.Perm.flatMap_right _ (List.reverse_perm ids)
theorem toks_count (id x : Int) (each : Nat) : ((List.range each).map (tok id)).countP (fun t => t.2 == x) = if id = x then each else 0 := by
  rw [List.countP_map]
  by_cases h : id = x
  · rw [if_pos h, List.countP_eq_length.2]
    · simp
    · intro n _; simp [tok, h]
  · rw [if_neg h, List.countP_eq_zero]
    intro n _; simp [tok, h]
theorem raw_count {ids : List Int} (h : ids.Nodup) {x : Int} (hx : x ∈ ids) (each : Nat) : (raw ids each).countP (fun t => t.2 == x) = each := by
  induction ids with
  | nil => simp at hx
  | cons y ids ih =>
    obtain ⟨h1, h2⟩ := List.nodup_cons.1 h
    have e : raw (y :: ids) each = (List.range each).map (tok y) ++ raw ids each := by simp [raw]
    rw [e, List.countP_append, toks_count]
    by_cases hy : y = x
    · subst hy
      have : (raw ids each).countP (fun t => t.2 == y) = 0 := by
        rw [List.countP_eq_zero]
        intro t ht
        simp only [raw, List.mem_flatMap, List.mem_map] at ht
        obtain ⟨id, hid, n, _, rfl⟩ := ht
        simp only [tok, beq_iff_eq]
        rintro rfl; exact h1 hid
      rw [this, if_pos rfl]; omega
    · rw [if_neg hy, ih h2 ((List.mem_cons.1 hx).resolve_left (fun e => hy e.symm))]; omega
/-- What is wrong with ids, one by one; had: those ahead. -/
def scan (had : List Int) : List Int → Int
  | [] => 0
  | x :: xs => if x < 0 ∨ 1099511627776 < x then 2 else if x ∈ had then 6 else scan (had ++ [x]) xs
def BadSize (n : Nat) (each : Int) : Prop := 16 < n ∨ each < 1 ∨ 20 < each
instance (n : Nat) (each : Int) : Decidable (BadSize n each) := by unfold BadSize; exact inferInstance
def makeE (ids : List Int) (each : Int) : Int := if BadSize ids.length each then 2 else scan [] ids
theorem scan_step {ids : List Int} {k : Nat} {x : Int} (hx : ids[k]? = some x) :
    scan (ids.take k) (ids.drop k) = if x < 0 ∨ 1099511627776 < x then 2 else if x ∈ ids.take k then 6 else scan (ids.take (k + 1)) (ids.drop (k + 1)) := by
  obtain ⟨h1, rfl⟩ := List.getElem?_eq_some_iff.1 hx
  rw [List.drop_eq_getElem_cons h1, scan, List.take_succ_eq_append_getElem h1]
theorem scan_zero {had ids : List Int} : scan had ids = 0 ↔ (∀ x ∈ ids, (0 ≤ x ∧ x ≤ 1099511627776) ∧ x ∉ had) ∧ ids.Nodup := by
  induction ids generalizing had with
  | nil => simp [scan]
  | cons x ids ih =>
    rw [scan]
    by_cases h1 : x < 0 ∨ 1099511627776 < x
    · rw [if_pos h1]
      constructor
      · intro h; omega
      · intro h; have := (h.1 x (by simp)).1; omega
    · rw [if_neg h1]
      by_cases h2 : x ∈ had
      · rw [if_pos h2]
        constructor
        · intro h; omega
        · intro h; exact absurd h2 (h.1 x (by simp)).2
      · rw [if_neg h2, ih]
        constructor
        · rintro ⟨h3, h4⟩
          refine ⟨fun y hy => ?_, List.nodup_cons.2 ⟨fun hx => ?_, h4⟩⟩
          · rcases List.mem_cons.1 hy with rfl | hy
            · exact ⟨by omega, h2⟩
            · exact ⟨(h3 y hy).1, fun h => (h3 y hy).2 (List.mem_append_left _ h)⟩
          · exact (h3 x hx).2 (by simp)
        · rintro ⟨h3, h4⟩
          obtain ⟨h5, h6⟩ := List.nodup_cons.1 h4
          refine ⟨fun y hy => ⟨(h3 y (by simp [hy])).1, fun h => ?_⟩, h6⟩
          rcases List.mem_append.1 h with h | h
          · exact (h3 y (by simp [hy])).2 h
          · simp at h; subst h; exact h5 hy
theorem scan_vals (had ids : List Int) : scan had ids = 0 ∨ scan had ids = 2 ∨ scan had ids = 6 := by
  induction ids generalizing had with
  | nil => exact .inl rfl
  | cons x ids ih =>
    rw [scan]
    split
    · exact .inr (.inl rfl)
    · split
      · exact .inr (.inr rfl)
      · exact ih _
theorem makeE_vals (ids : List Int) (each : Int) : makeE ids each = 0 ∨ makeE ids each = 2 ∨ makeE ids each = 6 := by
  unfold makeE; split
  · exact .inr (.inl rfl)
  · exact scan_vals _ _
theorem makeE_zero {ids : List Int} {each : Int} : makeE ids each = 0 ↔ ¬ BadSize ids.length each ∧ (∀ x ∈ ids, 0 ≤ x ∧ x ≤ 1099511627776) ∧ ids.Nodup := by
  unfold makeE
  split
  · rename_i h; simp [h]
  · rename_i h; rw [scan_zero]; simp [h]
theorem makeE_reverse (ids : List Int) (each : Int) : makeE ids.reverse each = 0 ↔ makeE ids each = 0 := by
  rw [makeE_zero, makeE_zero, List.length_reverse, (List.reverse_perm ids).nodup_iff]
  simp
theorem made_right {ids : List Int} {each : Nat} (h : makeE ids each = 0) : Right (srt (raw ids each)) := by
  obtain ⟨h1, _, _⟩ := makeE_zero.1 h
  refine ⟨?_, srt_sorted _⟩
  rw [(srt_perm _).length_eq, raw_len]
  unfold BadSize at h1
  exact Nat.le_trans (Nat.mul_le_mul (show ids.length ≤ 16 by omega) (show each ≤ 20 by omega)) (by omega)

/-! ### What a key meets -/
def turn (p : UInt64) (ts : List Tk) : List Int := ((ts.filter (fun t => decide (p.toNat ≤ t.1.toNat))) ++ ts.filter (fun t => !decide (p.toNat ≤ t.1.toNat))).map (·.2)
/-- How many stand ahead of a place. -/
def ahd (p : UInt64) (ts : List Tk) : Nat := ts.countP (fun t => !decide (p.toNat ≤ t.1.toNat))
theorem ahd_le (p : UInt64) (ts : List Tk) : ahd p ts ≤ ts.length := List.countP_le_length
theorem filter_split (p : UInt64) {ts : List Tk} (h : Sorted ts) : ts.filter (fun t => decide (p.toNat ≤ t.1.toNat)) = ts.drop (ahd p ts) ∧ ts.filter (fun t => !decide (p.toNat ≤ t.1.toNat)) = ts.take (ahd p ts) := by
  induction ts with
  | nil => simp [ahd]
  | cons t ts ih =>
    obtain ⟨h1, h2⟩ := List.pairwise_cons.1 h
    by_cases hp : p.toNat ≤ t.1.toNat
    · have hall : ∀ x ∈ ts, p.toNat ≤ x.1.toNat := fun x hx => by have := ltB_not.1 (h1 x hx); omega
      have e0 : ts.countP (fun t => !decide (p.toNat ≤ t.1.toNat)) = 0 := List.countP_eq_zero.2 (fun x hx => by simpa using hall x hx)
      have e1 : ts.filter (fun t => decide (p.toNat ≤ t.1.toNat)) = ts := List.filter_eq_self.2 (fun x hx => by simpa using hall x hx)
      have e2 : ts.filter (fun t => !decide (p.toNat ≤ t.1.toNat)) = [] := List.filter_eq_nil_iff.2 (fun x hx => by simpa using hall x hx)
      simp only [ahd, List.countP_cons, List.filter_cons, hp, e0, e1, e2, decide_true, Bool.not_true, if_true, if_false, Bool.false_eq_true, reduceIte, Nat.add_zero, List.drop_zero, List.take_zero, and_self]
    · have := ih h2
      have e : ahd p (t :: ts) = ahd p ts + 1 := by simp [ahd, List.countP_cons, hp]
      rw [e, List.drop_succ_cons, List.take_succ_cons]
      simp only [List.filter_cons, hp, decide_false, Bool.not_false, if_true, Bool.false_eq_true, if_false, reduceIte]
      exact ⟨this.1, by rw [this.2]⟩
theorem turn_len (p : UInt64) {ts : List Tk} (h : Sorted ts) : (turn p ts).length = ts.length := by
  unfold turn
  obtain ⟨h1, h2⟩ := filter_split p h
  rw [h1, h2]
  have := ahd_le p ts
  simp; omega
/-- The index that a key begins at. -/
def first (p : UInt64) (ts : List Tk) : Nat := if ahd p ts = ts.length then 0 else ahd p ts
theorem first_lt {p : UInt64} {ts : List Tk} (h : 0 < ts.length) : first p ts < ts.length := by
  unfold first; split
  · exact h
  · have := ahd_le p ts; omega
theorem turn_at (p : UInt64) {ts : List Tk} (h : Sorted ts) {k : Nat} (hk : k < ts.length) : ∃ t, ts[(first p ts + k) % ts.length]? = some t ∧ (turn p ts)[k]? = some t.2 := by
  obtain ⟨h1, h2⟩ := filter_split p h
  have hl := ahd_le p ts
  unfold turn
  rw [h1, h2, List.getElem?_map]
  unfold first
  by_cases he : ahd p ts = ts.length
  · rw [if_pos he, he, Nat.zero_add, Nat.mod_eq_of_lt hk]
    refine ⟨ts[k], List.getElem?_eq_getElem hk, ?_⟩
    simp [hk]
  · rw [if_neg he]
    by_cases hw : ahd p ts + k < ts.length
    · rw [Nat.mod_eq_of_lt hw]
      refine ⟨_, List.getElem?_eq_getElem hw, ?_⟩
      rw [List.getElem?_append_left (by simp; omega), List.getElem?_drop, List.getElem?_eq_getElem hw]; rfl
    · have e : (ahd p ts + k) % ts.length = ahd p ts + k - ts.length := by
        rw [Nat.mod_eq_sub_mod (by omega), Nat.mod_eq_of_lt (by omega)]
      rw [e]
      refine ⟨_, List.getElem?_eq_getElem (show ahd p ts + k - ts.length < ts.length by omega), ?_⟩
      rw [List.getElem?_append_right (by simp; omega), List.length_drop, List.getElem?_take_of_lt (by omega), show k - (ts.length - ahd p ts) = ahd p ts + k - ts.length by omega, List.getElem?_eq_getElem (show ahd p ts + k - ts.length < ts.length by omega)]; rfl
theorem turn_filter (p : UInt64) (ts : List Tk) (q : Int → Bool) : turn p (ts.filter (fun t => q t.2)) = (turn p ts).filter q := by
  unfold turn
  rw [List.filter_map, List.filter_append, List.filter_filter, List.filter_filter, List.filter_filter, List.filter_filter]
  congr 2
  · congr 1; funext t; exact Bool.and_comm _ _
  · congr 1; funext t; exact Bool.and_comm _ _

/-! ### Each at its first occurrence -/
def add (acc : List Int) (x : Int) : List Int := if x ∈ acc then acc else acc ++ [x]
def nub (l : List Int) : List Int := l.foldl add []
theorem nub_nil : nub [] = [] := rfl
theorem nub_snoc (l : List Int) (x : Int) : nub (l ++ [x]) = add (nub l) x := by unfold nub; rw [List.foldl_append]; rfl
theorem snoc_ind {α : Type} {P : List α → Prop} (h0 : P []) (h1 : ∀ l x, P l → P (l ++ [x])) (l : List α) : P l := by
  have : ∀ (n : Nat) (l : List α), l.length = n → P l := by
    intro n
    induction n with
    | zero => intro l hl; rw [List.eq_nil_of_length_eq_zero hl]; exact h0
    | succ n ih =>
      intro l hl
      have hne : l ≠ [] := fun e => by subst e; simp at hl
      rw [← List.dropLast_concat_getLast hne]
      exact h1 _ _ (ih _ (by simp [hl]))
  exact this l.length l rfl
theorem mem_nub {l : List Int} {x : Int} : x ∈ nub l ↔ x ∈ l := by
  induction l using snoc_ind with
  | h0 => simp [nub]
  | h1 l y ih =>
    rw [nub_snoc, add]
    split
    · rename_i h
      rw [ih, List.mem_append, List.mem_singleton]
      constructor
      · exact Or.inl
      · rintro (h2 | rfl)
        · exact h2
        · exact ih.1 h
    · rw [List.mem_append, List.mem_append, ih]
theorem nub_filter (l : List Int) (p : Int → Bool) : nub (l.filter p) = (nub l).filter p := by
  induction l using snoc_ind with
  | h0 => rfl
  | h1 l y ih =>
    rw [List.filter_append, nub_snoc]
    by_cases hp : p y = true
    · rw [show [y].filter p = [y] by simp [hp], nub_snoc, ih, add, add]
      by_cases hy : y ∈ nub l
      · rw [if_pos hy, if_pos (List.mem_filter.2 ⟨hy, hp⟩)]
      · rw [if_neg hy, if_neg (fun h => hy (List.mem_filter.1 h).1), List.filter_append, show [y].filter p = [y] by simp [hp]]
    · rw [show [y].filter p = [] by simp [hp], List.append_nil, ih, add]
      split
      · rfl
      · rw [List.filter_append, show [y].filter p = [] by simp [hp], List.append_nil]
theorem nub_prefix (l m : List Int) : nub l <+: nub (l ++ m) := by
  induction m using snoc_ind with
  | h0 => rw [List.append_nil]; exact List.prefix_refl _
  | h1 m y ih =>
    rw [← List.append_assoc, nub_snoc, add]
    split
    · exact ih
    · exact ih.trans (List.prefix_append _ _)
theorem nub_take (l : List Int) (k : Nat) : nub (l.take k) = (nub l).take (nub (l.take k)).length := by
  have := nub_prefix (l.take k) (l.drop k)
  rw [List.take_append_drop] at this
  exact List.prefix_iff_eq_take.1 this
theorem nub_len (l : List Int) : (nub l).length ≤ l.length := by
  induction l using snoc_ind with
  | h0 => simp [nub]
  | h1 l y ih =>
    rw [nub_snoc, add]
    split <;> simp <;> omega
theorem nub_head {l : List Int} : (nub l)[0]? = l[0]? := by
  cases l with
  | nil => rfl
  | cons x l =>
    have h := nub_prefix [x] l
    obtain ⟨m, hm⟩ := h
    have e : nub [x] = [x] := by simp [nub, add]
    rw [e] at hm
    show (nub ([x] ++ l))[0]? = _
    rw [← hm]; rfl
/-- The nodes that a key meets. -/
def met (key : UInt64) (ts : List Tk) : List Int := nub (turn (Mix.one key) ts)
theorem met_without (key : UInt64) (ts : List Tk) (id : Int) : met key (ts.filter (fun t => t.2 != id)) = (met key ts).filter (fun x => x != id) := by
  unfold met
  rw [turn_filter (Mix.one key) ts (fun x => x != id), nub_filter]
theorem filter_take_prefix (l : List Int) (p : Int → Bool) (k : Nat) : (l.filter p).take ((l.take k).filter p).length = (l.take k).filter p := by
  have h : (l.take k).filter p <+: l.filter p := by
    have e : l.filter p = (l.take k).filter p ++ (l.drop k).filter p := by rw [← List.filter_append, List.take_append_drop]
    rw [e]; exact List.prefix_append _ _
  exact (List.prefix_iff_eq_take.1 h).symm
end Go.Proofs.Ytahhgeecikljdaa.Ring
