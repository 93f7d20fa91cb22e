/-
  Package quorum, pure: strictly rising lists are told by what is in them; least sets one set further; a sorted row without its repetitions.
-/
import Derived.Test.YteggbepibfpjcaaQrPure
import Derived.Sort.Lot0
namespace Go.Proofs.Yteggbepibfpjcaa.Qr
set_option linter.unusedVariables false

theorem ext_sorted : ∀ {l k : List Nat}, l.Pairwise (· < ·) → k.Pairwise (· < ·) → (∀ x, x ∈ l ↔ x ∈ k) → l = k
  | [], [], _, _, _ => rfl
  | [], b :: k, _, _, h => by have := (h b).2 (by simp); simp at this
  | a :: l, [], _, _, h => by have := (h a).1 (by simp); simp at this
  | a :: l, b :: k, h1, h2, h => by
    rw [List.pairwise_cons] at h1 h2
    have e : a = b := by
      have ha := (h a).1 (by simp)
      have hb := (h b).2 (by simp)
      rcases List.mem_cons.1 ha with e | ha
      · exact e
      · rcases List.mem_cons.1 hb with e | hb
        · exact e.symm
        · have := h1.1 b hb; have := h2.1 a ha; omega
    subst e
    congr 1
    refine ext_sorted h1.2 h2.2 fun x => ⟨fun hx => ?_, fun hx => ?_⟩
    · rcases List.mem_cons.1 ((h x).1 (List.mem_cons_of_mem _ hx)) with e | hx'
      · have := h1.1 x hx; omega
      · exact hx'
    · rcases List.mem_cons.1 ((h x).2 (List.mem_cons_of_mem _ hx)) with e | hx'
      · have := h2.1 x hx; omega
      · exact hx'
theorem rise_sorted (N : Nat) (p : Nat → Bool) : (rise N p).Pairwise (· < ·) := List.Pairwise.filter _ List.pairwise_lt_range
theorem rise_ext {N : Nat} {p : Nat → Bool} {l : List Nat} (h : l.Pairwise (· < ·)) (hm : ∀ x, x ∈ l ↔ x < N ∧ p x = true) : l = rise N p :=
  ext_sorted h (rise_sorted N p) fun x => by rw [hm, mem_rise]
/-- One set of a least list is a part of x. -/
def hit (l : List Nat) (x : Nat) : Bool := l.any (fun o => decide (o &&& x = o))
theorem hit_iff {l : List Nat} {x : Nat} : hit l x = true ↔ ∃ o ∈ l, o &&& x = o := by simp [hit]
theorem least_nil : least [] = [] := by
  refine (ext_sorted (rise_sorted _ _) List.Pairwise.nil fun x => ?_)
  unfold least
  rw [mem_rise]
  simp [isLeast]
theorem least_hit {P : List Nat} {x : Nat} (hP : ∀ y ∈ P, y ≤ x) (hf : ∀ y ∈ P, y < 65536) (hx : x < 65536) (h : hit (least P) x = true) : least (P ++ [x]) = least P := by
  have hf' : ∀ y ∈ P ++ [x], y < 65536 := fun y hy => by
    rcases List.mem_append.1 hy with h | h
    · exact hf y h
    · simp at h; omega
  refine least_ext hf' hf fun s => ⟨?_, ?_⟩
  · rintro ⟨h1, h2⟩
    refine ⟨?_, fun y hy => h2 y (List.mem_append_left _ hy)⟩
    rcases List.mem_append.1 h1 with h1 | h1
    · exact h1
    · simp at h1
      subst h1
      obtain ⟨o, ho, e⟩ := hit_iff.1 h
      have hoP := least_sub hf o ho
      refine Classical.byContradiction fun hn => h2 o (List.mem_append_left _ hoP) ⟨e, fun e2 => hn (e2 ▸ hoP)⟩
  · rintro ⟨h1, h2⟩
    refine ⟨List.mem_append_left _ h1, fun y hy hw => ?_⟩
    rcases List.mem_append.1 hy with hy | hy
    · exact h2 y hy hw
    · simp at hy
      subst hy
      have := part_le hw.1
      have := hP s h1
      exact hw.2 (by omega)
theorem least_miss {P : List Nat} {x : Nat} (hP : ∀ y ∈ P, y ≤ x) (hf : ∀ y ∈ P, y < 65536) (hx : x < 65536) (h : hit (least P) x = false) : least (P ++ [x]) = least P ++ [x] := by
  have hf' : ∀ y ∈ P ++ [x], y < 65536 := fun y hy => by
    rcases List.mem_append.1 hy with h | h
    · exact hf y h
    · simp at h; omega
  have hno : ∀ o ∈ least P, o &&& x ≠ o := fun o ho e => by rw [hit_iff.2 ⟨o, ho, e⟩] at h; cases h
  refine ext_sorted (rise_sorted _ _) ?_ fun s => ?_
  · rw [List.pairwise_append]
    refine ⟨rise_sorted _ _, List.pairwise_singleton _ _, fun a ha b hb => ?_⟩
    simp at hb
    subst hb
    have := hP a (least_sub hf a ha)
    have : a ≠ b := fun e => hno a ha (by rw [e]; simp)
    omega
  · rw [mem_least hf', List.mem_append (s := least P), mem_least hf]
    constructor
    · rintro ⟨h1, h2⟩
      rcases List.mem_append.1 h1 with h1 | h1
      · exact .inl ⟨h1, fun y hy => h2 y (List.mem_append_left _ hy)⟩
      · exact .inr h1
    · rintro (⟨h1, h2⟩ | h1)
      · refine ⟨List.mem_append_left _ h1, fun y hy hw => ?_⟩
        rcases List.mem_append.1 hy with hy | hy
        · exact h2 y hy hw
        · simp at hy
          subst hy
          have := part_le hw.1
          have := hP s h1
          exact hw.2 (by omega)
      · simp at h1
        subst h1
        refine ⟨by simp, fun y hy hw => ?_⟩
        rcases List.mem_append.1 hy with hy | hy
        · obtain ⟨d, hd1, hd2⟩ := least_below hf y hy
          exact hno d hd1 (part_trans hd2 hw.1)
        · simp at hy
          exact hw.2 hy
theorem least_perm {l k : List Nat} (hl : ∀ x ∈ l, x < 65536) (h : ∀ x, x ∈ k ↔ x ∈ l) : least k = least l :=
  least_ext (fun x hx => hl x ((h x).1 hx)) hl fun s => by
    rw [h s]
    exact and_congr_right fun _ => ⟨fun g y hy => g y ((h y).2 hy), fun g y hy => g y ((h y).1 hy)⟩
theorem andnot_zero {a b : Nat} (ha : a < 65536) (hb : b < 65536) : (a &&& (65535 - b) = 0) ↔ a &&& b = a := by
  have e : 65535 - b = co 16 b := rfl
  rw [e]
  constructor
  · intro h
    have := part_co (n := 16) (co_lt 16 b) ha h
    have hc : co 16 (co 16 b) = b := by unfold co; omega
    rwa [hc] at this
  · intro h
    exact part_apart h (by rw [Nat.and_comm]; exact co_apart (n := 16) hb)

/-! ### A row without its repetitions -/
def keepB (d : Array Nat) (i : Nat) : Bool := decide (i = 0) || !decide (d[i]! = d[i - 1]!)
def comp (d : Array Nat) (m : Nat) : List Nat := ((List.range m).filter (keepB d)).map (fun i => d[i]!)
theorem comp_succ (d : Array Nat) (m : Nat) : comp d (m + 1) = comp d m ++ (if keepB d m = true then [d[m]!] else []) := by
  unfold comp
  rw [List.range_succ, List.filter_append, List.map_append]
  congr 1
  cases h : keepB d m <;> simp [h]
theorem comp_drop {d : Array Nat} {m : Nat} (h0 : 0 < m) (h : d[m]! = d[m - 1]!) : comp d (m + 1) = comp d m := by
  rw [comp_succ, if_neg (by simp [keepB, h]; omega), List.append_nil]
theorem comp_keep {d : Array Nat} {m : Nat} (h : d[m]! ≠ d[m - 1]!) : comp d (m + 1) = comp d m ++ [d[m]!] := by
  rw [comp_succ, if_pos (by simp [keepB, h])]
theorem comp_one (d : Array Nat) : comp d 1 = [d[0]!] := rfl
theorem comp_all (d : Array Nat) : ∀ (m : Nat), (∀ i, 1 ≤ i → i < m → d[i]! ≠ d[i - 1]!) → comp d m = (List.range m).map (fun i => d[i]!)
  | 0, _ => rfl
  | m + 1, h => by
    rw [List.range_succ, List.map_append, ← comp_all d m (fun i h1 h2 => h i h1 (by omega)), comp_succ]
    congr 1
    by_cases h0 : m = 0
    · subst h0; rfl
    · rw [if_pos (by simp [keepB, h m (by omega) (by omega)])]; rfl
theorem comp_len (d : Array Nat) (m : Nat) : (comp d m).length ≤ m := by
  unfold comp
  rw [List.length_map]
  have := List.length_filter_le (keepB d) (List.range m)
  simpa using this
theorem comp_sorted {d : Array Nat} {n : Nat} (h : ∀ i j, i < j → j < n → d[i]! ≤ d[j]!) : (comp d n).Pairwise (· < ·) := by
  unfold comp
  rw [List.pairwise_map]
  refine List.Pairwise.imp_of_mem ?_ (List.Pairwise.filter _ (List.pairwise_lt_range (n := n)))
  intro i j hi hj hij
  obtain ⟨hj1, hj2⟩ := List.mem_filter.1 hj
  have hjn := List.mem_range.1 hj1
  have hne : d[j]! ≠ d[j - 1]! := by
    intro e
    simp [keepB, e] at hj2
    omega
  have h1 : d[j - 1]! ≤ d[j]! := h (j - 1) j (by omega) hjn
  have h2 : d[i]! ≤ d[j - 1]! := by
    by_cases e : i = j - 1
    · rw [e]; exact Nat.le_refl _
    · exact h i (j - 1) (by omega) (by omega)
  show d[i]! < d[j]!
  omega
theorem mem_comp {d : Array Nat} {n : Nat} {x : Nat} : x ∈ comp d n ↔ ∃ i, i < n ∧ d[i]! = x := by
  unfold comp
  rw [List.mem_map]
  constructor
  · rintro ⟨i, hi, e⟩
    exact ⟨i, List.mem_range.1 (List.mem_filter.1 hi).1, e⟩
  · rintro ⟨i, hi, e⟩
    induction i with
    | zero => exact ⟨0, List.mem_filter.2 ⟨List.mem_range.2 hi, by simp [keepB]⟩, e⟩
    | succ i ih =>
      by_cases h : d[i + 1]! = d[i]!
      · exact ih (by omega) (by rw [← h]; exact e)
      · exact ⟨i + 1, List.mem_filter.2 ⟨List.mem_range.2 hi, by simp [keepB, h]⟩, e⟩
theorem mem_arr {d : Array Nat} {x : Nat} : x ∈ d.toList ↔ ∃ i, i < d.size ∧ d[i]! = x := by
  rw [List.mem_iff_getElem]
  constructor
  · rintro ⟨i, hi, e⟩
    have hi' : i < d.size := by simpa using hi
    exact ⟨i, hi', by rw [getElem!_pos d i hi']; simpa using e⟩
  · rintro ⟨i, hi, e⟩
    exact ⟨i, by simpa using hi, by rw [getElem!_pos d i hi] at e; simpa using e⟩
/-- A sorted row that holds what l holds, without repetitions. -/
theorem comp_rise {d : Array Nat} {n : Nat} {l : List Nat} (hn : d.size = n) (h : ∀ i j, i < j → j < n → d[i]! ≤ d[j]!) (hp : ∀ x, x ∈ d.toList ↔ x ∈ l) (hl : ∀ x ∈ l, x < 65536) : comp d n = rise 65536 (fun s => decide (s ∈ l)) :=
  rise_ext (comp_sorted h) fun x => by
    rw [mem_comp, ← hn, ← mem_arr, hp, decide_eq_true_iff]
    exact ⟨fun h => ⟨hl x h, h⟩, fun h => h.2⟩
end Go.Proofs.Yteggbepibfpjcaa.Qr
