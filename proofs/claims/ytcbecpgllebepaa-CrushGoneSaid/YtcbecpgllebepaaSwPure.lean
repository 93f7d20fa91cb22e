/-
  Straws, pure: which of two items has the longer straw; items in the order of their straws.
-/
import Derived.Test.YtcbecpgllebepaaMixPure
namespace Go.Proofs.Ytcbecpgllebepaa.Straw
set_option linter.unusedVariables false
set_option linter.unusedSimpArgs false

/-- An item: its id, its weight. -/
abbrev It := Int × Int
def word (id : Int) : UInt64 := UInt64.ofNat (id % 18446744073709551616).toNat
def draw (key : UInt64) (id : Int) : Nat := (Mix.two key (word id)).toNat / 281474976710656 + 1
theorem draw_pos (key : UInt64) (id : Int) : 1 ≤ draw key id := by unfold draw; omega
theorem draw_le (key : UInt64) (id : Int) : draw key id ≤ 65536 := by
  have := (Mix.two key (word id)).toNat_lt
  unfold draw; omega
/-- A weight, taken for 1 where it is less. -/
def wt (a : It) : Nat := max 1 a.2.toNat
theorem wt_pos (a : It) : 1 ≤ wt a := Nat.le_max_left _ _
theorem wt_of {a : It} (h : 0 < a.2) : wt a = a.2.toNat := by unfold wt; omega
/-- How long the straw of an item of draw x and weight u is, held against the weight v. -/
def len (x u v : Nat) : Nat := x ^ v * 65536 ^ u
def longer (key : UInt64) (a b : It) : Bool := decide (len (draw key b.1) (wt b) (wt a) < len (draw key a.1) (wt a) (wt b) ∨ len (draw key a.1) (wt a) (wt b) = len (draw key b.1) (wt b) (wt a) ∧ a.1 < b.1)
theorem len_tr {x y z u v w : Nat} (hy : 1 ≤ y) (hv : 1 ≤ v) (h1 : len y v u ≤ len x u v) (h2 : len z w v ≤ len y v w) : len z w u ≤ len x u w := by
  unfold len at *
  have p1 := Nat.pow_le_pow_left h1 w
  have p2 := Nat.pow_le_pow_left h2 u
  have p3 := Nat.mul_le_mul p1 p2
  rw [Nat.mul_pow, Nat.mul_pow, Nat.mul_pow, Nat.mul_pow, ← Nat.pow_mul, ← Nat.pow_mul, ← Nat.pow_mul, ← Nat.pow_mul, ← Nat.pow_mul, ← Nat.pow_mul, ← Nat.pow_mul, ← Nat.pow_mul] at p3
  have hc : 0 < y ^ (u * w) * 65536 ^ (u * w) := Nat.mul_pos (Nat.pow_pos hy) (Nat.pow_pos (by omega))
  have e1 : y ^ (u * w) * 65536 ^ (v * w) * (z ^ (v * u) * 65536 ^ (w * u)) = (z ^ u * 65536 ^ w) ^ v * (y ^ (u * w) * 65536 ^ (u * w)) := by
    rw [Nat.mul_pow, ← Nat.pow_mul, ← Nat.pow_mul, Nat.mul_comm w v, Nat.mul_comm u v, Nat.mul_comm w u]; ac_rfl
  have e2 : x ^ (v * w) * 65536 ^ (u * w) * (y ^ (w * u) * 65536 ^ (v * u)) = (x ^ w * 65536 ^ u) ^ v * (y ^ (u * w) * 65536 ^ (u * w)) := by
    rw [Nat.mul_pow, ← Nat.pow_mul, ← Nat.pow_mul, Nat.mul_comm w v, Nat.mul_comm u v, Nat.mul_comm w u]; ac_rfl
  rw [e1, e2] at p3
  have p4 := Nat.le_of_mul_le_mul_right p3 hc
  exact (Nat.pow_le_pow_iff_left (by omega)).1 p4
theorem longer_iff {key : UInt64} {a b : It} : longer key a b = true ↔ len (draw key b.1) (wt b) (wt a) < len (draw key a.1) (wt a) (wt b) ∨ len (draw key a.1) (wt a) (wt b) = len (draw key b.1) (wt b) (wt a) ∧ a.1 < b.1 := by unfold longer; simp
theorem longer_not {key : UInt64} {a b : It} : longer key a b = false ↔ ¬ (len (draw key b.1) (wt b) (wt a) < len (draw key a.1) (wt a) (wt b) ∨ len (draw key a.1) (wt a) (wt b) = len (draw key b.1) (wt b) (wt a) ∧ a.1 < b.1) := by unfold longer; simp
theorem longer_irr (key : UInt64) (a : It) : longer key a a = false := by rw [longer_not]; omega
theorem longer_asym {key : UInt64} {a b : It} (h : longer key a b = true) : longer key b a = false := by
  rw [longer_iff] at h; rw [longer_not]; omega
theorem longer_id {key : UInt64} {a b : It} (h1 : longer key a b = false) (h2 : longer key b a = false) : a.1 = b.1 := by
  rw [longer_not] at *; omega
theorem longer_ntr {key : UInt64} {a b c : It} (h1 : longer key a b = false) (h2 : longer key b c = false) : longer key a c = false := by
  rw [longer_not] at *
  have k1 : len (draw key a.1) (wt a) (wt b) ≤ len (draw key b.1) (wt b) (wt a) := by omega
  have k2 : len (draw key b.1) (wt b) (wt c) ≤ len (draw key c.1) (wt c) (wt b) := by omega
  have t1 := len_tr (draw_pos key b.1) (wt_pos b) k2 k1
  intro h
  rcases h with h | ⟨h, hi⟩
  · omega
  · have t2 : len (draw key b.1) (wt b) (wt a) ≤ len (draw key a.1) (wt a) (wt b) := len_tr (draw_pos key c.1) (wt_pos c) (Nat.le_of_eq h.symm) k2
    have t3 : len (draw key c.1) (wt c) (wt b) ≤ len (draw key b.1) (wt b) (wt c) := len_tr (draw_pos key a.1) (wt_pos a) k1 (Nat.le_of_eq h.symm)
    omega
theorem longer_tr {key : UInt64} {a b c : It} (h1 : longer key a b = true) (h2 : longer key b c = true) : longer key a c = true := by
  cases h : longer key a c with
  | true => rfl
  | false =>
    have := longer_ntr h (longer_asym h2)
    rw [h1] at this; cases this

/-! ### Items in order -/
def Sorted (key : UInt64) (l : List It) : Prop := l.Pairwise (fun a b => longer key b a = false)
def srt (key : UInt64) (l : List It) : List It := l.mergeSort (fun x y => !longer key y x)
theorem srt_perm (key : UInt64) (l : List It) : (srt key l).Perm l := List.mergeSort_perm _ _
theorem srt_sorted (key : UInt64) (l : List It) : Sorted key (srt key l) := by
  have h := List.pairwise_mergeSort (le := fun x y : It => !longer key y x) (fun a b c h1 h2 => by simp at *; exact longer_ntr h2 h1)
    (fun a b => by cases h : longer key b a <;> simp; exact longer_asym h) l
  exact h.imp (fun h => by simpa using h)
/-- No id stands twice. -/
def Once (l : List It) : Prop := (l.map (·.1)).Nodup
theorem Once.inj {l : List It} (h : Once l) {a b : It} (ha : a ∈ l) (hb : b ∈ l) (e : a.1 = b.1) : a = b := by
  induction l with
  | nil => simp at ha
  | cons x l ih =>
    obtain ⟨h1, h2⟩ := List.nodup_cons.1 (show (x.1 :: l.map (·.1)).Nodup from h)
    rcases List.mem_cons.1 ha with ha' | ha'
    · rcases List.mem_cons.1 hb with hb' | hb'
      · rw [ha', hb']
      · subst ha'; exact absurd (List.mem_map.2 ⟨b, hb', e.symm⟩) h1
    · rcases List.mem_cons.1 hb with hb' | hb'
      · subst hb'; exact absurd (List.mem_map.2 ⟨a, ha', e⟩) h1
      · exact ih h2 ha' hb'
theorem Once.perm {l m : List It} (h : Once l) (hp : m.Perm l) : Once m := (List.Perm.nodup_iff (hp.map (fun a : It => a.1))).2 h
theorem Once.filter {l : List It} (h : Once l) (p : It → Bool) : Once (l.filter p) := h.sublist ((List.filter_sublist (p := p)).map _)
theorem sorted_eq {key : UInt64} {xs ys : List It} (ho : Once ys) (h1 : Sorted key xs) (h2 : Sorted key ys) (hp : xs.Perm ys) : xs = ys :=
  List.Perm.eq_of_pairwise (fun a b ha hb hab hba => ho.inj (hp.mem_iff.1 ha) hb (longer_id hba hab)) h1 h2 hp
theorem srt_eq {key : UInt64} {xs ys : List It} (ho : Once ys) (h : Sorted key ys) (hp : ys.Perm xs) : srt key xs = ys := sorted_eq ho (srt_sorted key xs) h ((srt_perm key xs).trans hp.symm)
theorem srt_of_perm {key : UInt64} {xs ys : List It} (ho : Once xs) (h : xs.Perm ys) : srt key xs = srt key ys :=
  (srt_eq (ho.perm ((srt_perm key xs))) (srt_sorted key xs) ((srt_perm key xs).trans h)).symm
theorem srt_filter {key : UInt64} {xs : List It} (ho : Once xs) (p : It → Bool) : srt key (xs.filter p) = (srt key xs).filter p :=
  srt_eq ((ho.perm (srt_perm key xs)).filter p) ((srt_sorted key xs).filter p) ((srt_perm key xs).filter p)
/-- Those with a positive weight, in order. -/
def pos (l : List It) : List It := l.filter (fun a => decide (0 < a.2))
theorem pos_once {l : List It} (h : Once l) : Once (pos l) := h.filter _
def order (key : UInt64) (l : List It) : List It := srt key (pos l)
def ids (key : UInt64) (l : List It) : List Int := (order key l).map (·.1)
theorem pos_filter (l : List It) (p : It → Bool) : pos (l.filter p) = (pos l).filter p := by
  unfold pos
  rw [List.filter_filter, List.filter_filter]
  congr 1; funext a; exact Bool.and_comm _ _
theorem ids_perm {key : UInt64} {l m : List It} (ho : Once l) (h : l.Perm m) : ids key l = ids key m := by
  have h2 : (pos l).Perm (pos m) := h.filter _
  unfold ids order; rw [srt_of_perm (pos_once ho) h2]
theorem ids_without {key : UInt64} {l : List It} (ho : Once l) (id : Int) : ids key (l.filter (fun a => a.1 != id)) = (ids key l).filter (fun x => x != id) := by
  unfold ids order
  rw [pos_filter, srt_filter (pos_once ho), List.filter_map]
  rfl
theorem ids_mem {key : UInt64} {l : List It} {x : Int} : x ∈ ids key l ↔ ∃ a ∈ l, 0 < a.2 ∧ a.1 = x := by
  unfold ids order
  rw [List.mem_map]
  constructor
  · rintro ⟨a, ha, rfl⟩
    have := List.mem_filter.1 ((srt_perm key _).mem_iff.1 ha)
    exact ⟨a, this.1, by simpa using this.2, rfl⟩
  · rintro ⟨a, ha, hp, rfl⟩
    exact ⟨a, (srt_perm key _).mem_iff.2 (List.mem_filter.2 ⟨ha, by simpa using hp⟩), rfl⟩
theorem ids_nodup {key : UInt64} {l : List It} (ho : Once l) : (ids key l).Nodup := (pos_once ho).perm (srt_perm key _)
theorem ids_len (key : UInt64) (l : List It) : (ids key l).length = (pos l).length := by unfold ids order; rw [List.length_map, (srt_perm key _).length_eq]

/-! ### Scaled weights -/
def scale (c : Int) (a : It) : It := (a.1, a.2 * c)
theorem wt_scale {c : Nat} {a : It} (hc : 1 ≤ c) (ha : 0 < a.2) : wt (scale c a) = wt a * c := by
  obtain ⟨n, hn⟩ : ∃ n : Nat, a.2 = n := ⟨a.2.toNat, by omega⟩
  have h2 : (scale c a).2 = ((n * c : Nat) : Int) := by show a.2 * (c : Int) = _; rw [hn]; simp
  have hp : 0 < n * c := Nat.mul_pos (by omega) hc
  rw [wt_of (by rw [h2]; omega), wt_of ha, h2, hn, Int.toNat_natCast, Int.toNat_natCast]
theorem len_scale (x u v c : Nat) : len x (u * c) (v * c) = len x u v ^ c := by
  unfold len; rw [Nat.mul_pow, ← Nat.pow_mul, ← Nat.pow_mul]
theorem longer_scale {key : UInt64} {c : Nat} {a b : It} (hc : 1 ≤ c) (ha : 0 < a.2) (hb : 0 < b.2) : longer key (scale c a) (scale c b) = longer key a b := by
  rw [Bool.eq_iff_iff, longer_iff, longer_iff, wt_scale hc ha, wt_scale hc hb]
  show len (draw key b.1) (wt b * c) (wt a * c) < len (draw key a.1) (wt a * c) (wt b * c) ∨ len (draw key a.1) (wt a * c) (wt b * c) = len (draw key b.1) (wt b * c) (wt a * c) ∧ a.1 < b.1 ↔ _
  rw [len_scale, len_scale, Nat.pow_lt_pow_iff_left (by omega)]
  have e : ∀ m n : Nat, m ^ c = n ^ c ↔ m = n := fun m n => by
    constructor
    · intro h
      have h1 := (Nat.pow_le_pow_iff_left (a := m) (b := n) (n := c) (by omega)).1 (Nat.le_of_eq h)
      have h2 := (Nat.pow_le_pow_iff_left (a := n) (b := m) (n := c) (by omega)).1 (Nat.le_of_eq h.symm)
      omega
    · rintro rfl; rfl
  rw [e]
theorem pos_scale {c : Nat} (hc : 1 ≤ c) (l : List It) : pos (l.map (scale c)) = (pos l).map (scale c) := by
  unfold pos
  rw [List.filter_map]
  congr 1
  refine List.filter_congr fun a _ => ?_
  show decide (0 < a.2 * (c : Int)) = decide (0 < a.2)
  have : 0 < a.2 * (c : Int) ↔ 0 < a.2 := by
    constructor
    · intro h; rcases Int.lt_or_le 0 a.2 with h1 | h1
      · exact h1
      · have := Int.mul_nonpos_of_nonpos_of_nonneg h1 (show (0 : Int) ≤ c by omega); omega
    · intro h; exact Int.mul_pos h (by omega)
  rw [Bool.eq_iff_iff, decide_eq_true_iff, decide_eq_true_iff, this]
theorem ids_scale {key : UInt64} {c : Nat} (hc : 1 ≤ c) {l : List It} (ho : Once l) : ids key (l.map (scale c)) = ids key l := by
  unfold ids order
  rw [pos_scale hc]
  have hall : ∀ a ∈ srt key (pos l), 0 < a.2 := fun a ha => by simpa using (List.mem_filter.1 ((srt_perm key _).mem_iff.1 ha)).2
  have ho2 : Once (srt key (pos l)) := (pos_once ho).perm (srt_perm key _)
  have hs : Sorted key ((srt key (pos l)).map (scale c)) := by
    refine List.pairwise_map.2 ((srt_sorted key (pos l)).imp_of_mem fun ha hb h => ?_)
    rw [longer_scale hc (hall _ hb) (hall _ ha)]; exact h
  have hids : ((srt key (pos l)).map (scale c)).map (·.1) = (srt key (pos l)).map (·.1) := by rw [List.map_map]; rfl
  rw [srt_eq (by unfold Once; rw [hids]; exact ho2) hs ((srt_perm key (pos l)).map _), hids]

/-! ### More weight -/
theorem len_more {x y u v m : Nat} (hx : x ≤ 65536) (h : len y (u + m) v ≤ len x v (u + m)) : len y u v ≤ len x v u := by
  unfold len at *
  have h1 : x ^ (u + m) * 65536 ^ v ≤ x ^ u * 65536 ^ v * 65536 ^ m := by
    rw [Nat.pow_add, Nat.mul_right_comm]
    exact Nat.mul_le_mul_left _ (Nat.pow_le_pow_left hx m)
  have h2 : y ^ v * 65536 ^ (u + m) = y ^ v * 65536 ^ u * 65536 ^ m := by rw [Nat.pow_add, Nat.mul_assoc]
  rw [h2] at h
  exact Nat.le_of_mul_le_mul_right (Nat.le_trans h h1) (Nat.pow_pos (by omega))
theorem len_more' {x y u v m : Nat} (hx : x ≤ 65536) (h : len y (u + m) v < len x v (u + m)) : len y u v < len x v u := by
  unfold len at *
  have h1 : x ^ (u + m) * 65536 ^ v ≤ x ^ u * 65536 ^ v * 65536 ^ m := by
    rw [Nat.pow_add, Nat.mul_right_comm]
    exact Nat.mul_le_mul_left _ (Nat.pow_le_pow_left hx m)
  have h2 : y ^ v * 65536 ^ (u + m) = y ^ v * 65536 ^ u * 65536 ^ m := by rw [Nat.pow_add, Nat.mul_assoc]
  rw [h2] at h
  exact Nat.lt_of_mul_lt_mul_right (Nat.lt_of_lt_of_le h h1)
/-- Who is longer than a heavier one is longer than the lighter one. -/
theorem longer_more {key : UInt64} {b a a' : It} (hid : a'.1 = a.1) (hw : wt a ≤ wt a') (h : longer key b a' = true) : longer key b a = true := by
  rw [longer_iff] at *
  rw [hid] at h
  obtain ⟨m, hm⟩ : ∃ m, wt a' = wt a + m := ⟨wt a' - wt a, by omega⟩
  rw [hm] at h
  rcases h with h | ⟨h, hi⟩
  · exact .inl (len_more' (draw_le key b.1) h)
  · have := len_more (m := m) (draw_le key b.1) (Nat.le_of_eq h.symm)
    omega
/-- An item's place is how many are longer. -/
theorem place_count {key : UInt64} {l : List It} (hs : Sorted key l) (ho : Once l) {i : Nat} {a : It} (hi : l[i]? = some a) : l.countP (fun b => longer key b a) = i := by
  have hlt := (List.getElem?_eq_some_iff.1 hi).1
  have e : l = l.take i ++ a :: l.drop (i + 1) := by
    obtain ⟨h1, rfl⟩ := List.getElem?_eq_some_iff.1 hi
    rw [← List.drop_eq_getElem_cons h1, List.take_append_drop]
  have hs' := hs
  have ho' := ho
  rw [e] at hs' ho'
  unfold Once at ho'
  rw [List.map_append, List.map_cons, List.nodup_append] at ho'
  obtain ⟨s1, s2, s3⟩ := List.pairwise_append.1 hs'
  have h1 : (l.take i).countP (fun b => longer key b a) = (l.take i).length := by
    refine List.countP_eq_length.2 fun b hb => ?_
    cases h : longer key b a with
    | true => rfl
    | false =>
      have := longer_id h (s3 b hb a (by simp))
      exact absurd this (ho'.2.2 b.1 (List.mem_map.2 ⟨b, hb, rfl⟩) a.1 (by simp))
  have h2 : (l.drop (i + 1)).countP (fun b => longer key b a) = 0 := List.countP_eq_zero.2 fun b hb => by
    have := (List.pairwise_cons.1 s2).1 b hb
    simp [this]
  have hc := congrArg (List.countP (fun b => longer key b a)) e
  rw [List.countP_append, List.countP_cons, h1, h2, longer_irr, List.length_take, Nat.min_eq_left (by omega)] at hc
  simpa using hc
end Go.Proofs.Ytcbecpgllebepaa.Straw
