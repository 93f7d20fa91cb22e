/-
  Lookup tables, pure: prime numbers, lists of preferences, turns, and what stands in a table at the end.
-/
import Derived.Test.YtahhgeecikljdaaMixPure
namespace Go.Proofs.Ytahhgeecikljdaa.Tb
set_option linter.unusedVariables false
set_option linter.unusedSimpArgs false

/-! ### Prime numbers -/
def Prm (n : Nat) : Prop := 2 ≤ n ∧ ∀ d, d < n → 2 ≤ d → n % d ≠ 0
instance (n : Nat) : Decidable (Prm n) := by unfold Prm; exact inferInstance
theorem trial {n d : Nat} (h : ∀ e, 2 ≤ e → e < d → n % e ≠ 0) (hd : n < d * d) (h2 : 2 ≤ n) : Prm n := by
  refine ⟨h2, fun e h3 h4 h5 => ?_⟩
  obtain ⟨q, hq⟩ := Nat.dvd_of_mod_eq_zero h5
  rcases Nat.lt_or_ge e d with h6 | h6
  · exact h e h4 h6 h5
  · have hqd : q < d := by
      rcases Nat.lt_or_ge q d with h7 | h7
      · exact h7
      · have := Nat.mul_le_mul h6 h7; omega
    have hq2 : 2 ≤ q := by
      rcases (by omega : q = 0 ∨ q = 1 ∨ 2 ≤ q) with h7 | h7 | h7
      · subst h7; omega
      · subst h7; omega
      · exact h7
    exact h q hq2 hqd (by rw [hq]; exact Nat.mul_mod_left _ _)
theorem not_prm {n d : Nat} (h1 : 2 ≤ d) (h2 : d * d ≤ n) (h3 : n % d = 0) : ¬ Prm n := fun h => by
  refine h.2 d ?_ h1 h3
  have := Nat.mul_le_mul h1 (Nat.le_refl d)
  omega
/-- How many of the first k numbers divide n. -/
def dv (n k : Nat) : Nat := (List.range k).countP (fun e => decide (n % (e + 1) = 0))
theorem dv_zero (n : Nat) : dv n 0 = 0 := rfl
theorem dv_succ (n k : Nat) : dv n (k + 1) = dv n k + if n % (k + 1) = 0 then 1 else 0 := by
  unfold dv
  rw [List.range_succ, List.countP_append, List.countP_singleton]
  simp
theorem dv_le (n k : Nat) : dv n k ≤ k := by
  have := List.countP_le_length (p := fun e => decide (n % (e + 1) = 0)) (l := List.range k)
  simpa [dv] using this
theorem dv_prm {n : Nat} (h : 1 ≤ n) : dv n n = 2 ↔ Prm n := by
  rcases (by omega : n = 1 ∨ 2 ≤ n) with rfl | h2
  · constructor
    · intro h; exact absurd h (by decide)
    · intro h; exact absurd h.1 (by decide)
  · obtain ⟨m, rfl⟩ : ∃ m, n = m + 2 := ⟨n - 2, by omega⟩
    rw [dv_succ, if_pos (by rw [Nat.mod_self])]
    have e : dv (m + 2) (m + 1) = (List.range m).countP (fun e => decide ((m + 2) % (e + 2) = 0)) + 1 := by
      unfold dv
      rw [List.range_succ_eq_map, List.countP_cons, List.countP_map]
      rw [if_pos (by simp [Nat.mod_one])]
      rfl
    rw [e]
    constructor
    · intro h0
      have hz : (List.range m).countP (fun e => decide ((m + 2) % (e + 2) = 0)) = 0 := by omega
      rw [List.countP_eq_zero] at hz
      refine ⟨h2, fun d h3 h4 h5 => ?_⟩
      have := hz (d - 2) (List.mem_range.2 (by omega))
      rw [decide_eq_true_iff, show d - 2 + 2 = d by omega] at this
      exact this h5
    · intro hp
      have hz : (List.range m).countP (fun e => decide ((m + 2) % (e + 2) = 0)) = 0 := by
        rw [List.countP_eq_zero]
        intro e he
        rw [decide_eq_true_iff]
        have := List.mem_range.1 he
        exact hp.2 (e + 2) (by omega) (by omega)
      omega
theorem prm_coprime {p s : Nat} (hp : Prm p) (h0 : 0 < s) (h1 : s < p) : Nat.Coprime p s := by
  have hg1 := Nat.gcd_dvd_left p s
  have hg2 := Nat.gcd_dvd_right p s
  have hle := Nat.le_of_dvd h0 hg2
  have hpos : 0 < Nat.gcd p s := Nat.gcd_pos_of_pos_right _ h0
  rcases (by omega : Nat.gcd p s = 1 ∨ 2 ≤ Nat.gcd p s) with h | h
  · exact h
  · exact absurd (Nat.mod_eq_zero_of_dvd hg1) (hp.2 _ (by omega) h)
theorem euclid {p s j : Nat} (hp : Prm p) (h0 : 0 < s) (h1 : s < p) (h : p ∣ j * s) : p ∣ j :=
  Nat.Coprime.dvd_of_dvd_mul_right (prm_coprime hp h0 h1) h

/-! ### Lists of positions -/
/-- Each number below p once. -/
def Full (l : List Nat) (p : Nat) : Prop := l.Nodup ∧ ∀ q, q ∈ l ↔ q < p
theorem full_range (p : Nat) : Full (List.range p) p := ⟨List.nodup_range, fun q => List.mem_range⟩
theorem Full.perm {l : List Nat} {p : Nat} (h : Full l p) : l.Perm (List.range p) :=
  (List.perm_ext_iff_of_nodup h.1 List.nodup_range).2 fun q => by rw [h.2, List.mem_range]
theorem Full.len {l : List Nat} {p : Nat} (h : Full l p) : l.length = p := by
  rw [h.perm.length_eq, List.length_range]
theorem len_le {l : List Nat} {p : Nat} (h : l.Nodup) (hl : ∀ q ∈ l, q < p) : l.length ≤ p := by
  induction p generalizing l with
  | zero =>
    cases l with
    | nil => simp
    | cons a l => exact absurd (hl a (by simp)) (by omega)
  | succ p ih =>
    have h1 := ih (l := l.erase p) (h.erase p) (fun q hq => by
      have h2 := hl q (List.mem_of_mem_erase hq)
      have h3 : q ≠ p := fun e => by subst e; exact (List.Nodup.mem_erase_iff h).1 hq |>.1 rfl
      omega)
    have h2 : l.length ≤ (l.erase p).length + 1 := by rw [List.length_erase]; split <;> omega
    omega
theorem full_of {l : List Nat} {p : Nat} (h : l.Nodup) (hl : ∀ q ∈ l, q < p) (hn : l.length = p) : Full l p := by
  refine ⟨h, fun q => ⟨hl q, fun hq => ?_⟩⟩
  rcases Decidable.em (q ∈ l) with h1 | h1
  · exact h1
  · have := len_le (l := q :: l) (p := p) (List.nodup_cons.2 ⟨h1, h⟩) (fun x hx => by
      rcases List.mem_cons.1 hx with rfl | hx
      · exact hq
      · exact hl x hx)
    simp at this; omega
theorem sub_len {xs l : List Nat} (h : xs.Nodup) (hs : ∀ x ∈ xs, x ∈ l) : xs.length ≤ l.length := by
  induction xs generalizing l with
  | nil => simp
  | cons x xs ih =>
    obtain ⟨h1, h2⟩ := List.nodup_cons.1 h
    have hx := hs x (by simp)
    have h3 := ih (l := l.erase x) h2 (fun y hy => (List.mem_erase_of_ne (fun e => h1 (by subst e; exact hy))).2 (hs y (by simp [hy])))
    rw [List.length_erase_of_mem hx] at h3
    have := List.length_pos_of_mem hx
    simp; omega
theorem has_free {l : List Nat} {p : Nat} (hl : l.length < p) : ∃ q, q < p ∧ q ∉ l := by
  rcases Decidable.em (∀ x ∈ List.range p, x ∈ l) with h | h
  · have := sub_len List.nodup_range h
    rw [List.length_range] at this; omega
  · simp only [Classical.not_forall] at h
    obtain ⟨q, hq, hn⟩ := h
    exact ⟨q, List.mem_range.1 hq, hn⟩

/-! ### Preferences -/
def pos (a s p k : Nat) : Nat := (a + k * s) % p
def pref (a s p : Nat) : List Nat := (List.range p).map (pos a s p)
theorem pref_len (a s p : Nat) : (pref a s p).length = p := by simp [pref]
theorem pref_at {a s p k : Nat} (h : k < p) : (pref a s p)[k]? = some (pos a s p k) := by
  simp [pref, List.getElem?_range h]
theorem pos_zero {a s p : Nat} (h : a < p) : pos a s p 0 = a := by unfold pos; rw [Nat.zero_mul, Nat.add_zero, Nat.mod_eq_of_lt h]
theorem pos_succ (a s p k : Nat) : pos a s p (k + 1) = (pos a s p k + s) % p := by
  unfold pos; rw [Nat.mod_add_mod, Nat.add_mul, Nat.one_mul, Nat.add_assoc]
theorem pos_lt {a s p : Nat} (h : 0 < p) (k : Nat) : pos a s p k < p := Nat.mod_lt _ h
theorem pos_ne {a s p i j : Nat} (hp : Prm p) (h0 : 0 < s) (h1 : s < p) (hij : i < j) (hj : j < p) : pos a s p i ≠ pos a s p j := fun e => by
  unfold pos at e
  have h2 : p ∣ (a + j * s) - (a + i * s) := Nat.dvd_of_mod_eq_zero (Nat.sub_mod_eq_zero_of_mod_eq e.symm)
  have h3 : (a + j * s) - (a + i * s) = (j - i) * s := by rw [Nat.sub_mul]; omega
  rw [h3] at h2
  have h4 := Nat.le_of_dvd (by omega) (euclid hp h0 h1 h2)
  omega
theorem pref_full {a s p : Nat} (hp : Prm p) (h0 : 0 < s) (h1 : s < p) : Full (pref a s p) p := by
  refine full_of ?_ ?_ (pref_len a s p)
  · unfold pref
    rw [List.nodup_iff_pairwise_ne, List.pairwise_map]
    refine List.Pairwise.imp_of_mem ?_ List.pairwise_lt_range
    intro i j hi hj hij
    exact pos_ne hp h0 h1 hij (List.mem_range.1 hj)
  · intro q hq
    obtain ⟨k, hk, rfl⟩ := List.mem_map.1 hq
    exact pos_lt (by have := hp.1; omega) k
end Go.Proofs.Ytahhgeecikljdaa.Tb
