/-
  Numbers as lists of digits of 32 bits, the least one first, without noughts at the end.
-/
import Derived.Test.YtahhgeecikljdaaWords
namespace Go.Proofs.Ytahhgeecikljdaa.Big

def val : List UInt32 → Nat
  | [] => 0
  | d :: r => d.toNat + 4294967296 * val r

def digs (n : Nat) : List UInt32 := if n = 0 then [] else UInt32.ofNat (n % 4294967296) :: digs (n / 4294967296)
termination_by n
decreasing_by omega

theorem digs_zero : digs 0 = [] := by rw [digs]; rfl
theorem digs_pos {n : Nat} (h : n ≠ 0) : digs n = UInt32.ofNat (n % 4294967296) :: digs (n / 4294967296) := by rw [digs, if_neg h]

theorem val_digs (n : Nat) : val (digs n) = n := by
  induction n using Nat.strongRecOn with
  | _ n ih =>
    by_cases h : n = 0
    · subst h; rw [digs_zero]; rfl
    · rw [digs_pos h, val, ih _ (by omega), UInt32.toNat_ofNat']
      omega

def Trim (l : List UInt32) : Prop := l.getLast? ≠ some 0

theorem val_cons_zero {d : UInt32} {r : List UInt32} (h : val (d :: r) = 0) : d = 0 ∧ val r = 0 := by
  rw [val] at h
  refine ⟨UInt32.toNat_inj.1 (by show d.toNat = 0; omega), by omega⟩

theorem trim_tail {d : UInt32} {r : List UInt32} (h : Trim (d :: r)) : Trim r := by
  intro hl
  cases r with
  | nil => cases hl
  | cons e s => exact h (by rw [List.getLast?_cons_cons]; exact hl)

theorem val_pos {l : List UInt32} (h : Trim l) (hne : l ≠ []) : 0 < val l := by
  induction l with
  | nil => exact absurd rfl hne
  | cons d r ih =>
    rw [val]
    by_cases hr : r = []
    · subst hr
      have hd : d ≠ 0 := fun e => h (by rw [e]; rfl)
      have : d.toNat ≠ 0 := fun e => hd (UInt32.toNat_inj.1 e)
      omega
    · have := ih (trim_tail h) hr
      omega

theorem digs_val {l : List UInt32} (h : Trim l) : digs (val l) = l := by
  induction l with
  | nil => rw [val, digs_zero]
  | cons d r ih =>
    have hp := val_pos h (by simp)
    rw [digs_pos (by omega)]
    have hd := d.toNat_lt
    have h1 : val (d :: r) % 4294967296 = d.toNat := by rw [val]; omega
    have h2 : val (d :: r) / 4294967296 = val r := by rw [val]; omega
    rw [h1, h2, ih (trim_tail h)]
    simp

theorem val_append (a b : List UInt32) : val (a ++ b) = val a + 4294967296 ^ a.length * val b := by
  induction a with
  | nil => simp [val]
  | cons d r ih =>
    simp only [List.cons_append, val, List.length_cons, Nat.pow_succ]
    rw [ih, Nat.mul_add, ← Nat.mul_assoc, Nat.add_assoc, Nat.mul_comm (4294967296 ^ r.length)]

theorem val_zeros {l : List UInt32} (h : ∀ (j : Nat) (u : UInt32), l[j]? = some u → u = 0) : val l = 0 := by
  induction l with
  | nil => rfl
  | cons d r ih =>
    have h0 : d = 0 := h 0 d rfl
    rw [val, ih (fun j u hj => h (j + 1) u (by simpa using hj)), h0]
    rfl

theorem val_lt (l : List UInt32) : val l < 4294967296 ^ l.length := by
  induction l with
  | nil => simp [val]
  | cons d r ih =>
    have hd := d.toNat_lt
    simp only [val, List.length_cons, Nat.pow_succ]
    have : val r + 1 ≤ 4294967296 ^ r.length := ih
    have h2 : (val r + 1) * 4294967296 ≤ 4294967296 ^ r.length * 4294967296 := Nat.mul_le_mul_right _ this
    omega

theorem trim_digs (n : Nat) : Trim (digs n) := by
  induction n using Nat.strongRecOn with
  | _ n ih =>
    by_cases h : n = 0
    · subst h; rw [digs_zero]; intro h; cases h
    · rw [digs_pos h]
      intro hl
      by_cases h2 : n / 4294967296 = 0
      · rw [h2, digs_zero] at hl
        have : UInt32.ofNat (n % 4294967296) = 0 := by simpa using hl
        have h3 := congrArg UInt32.toNat this
        rw [UInt32.toNat_ofNat'] at h3
        have h4 : (0 : UInt32).toNat = 0 := rfl
        omega
      · rw [digs_pos h2, List.getLast?_cons_cons, ← digs_pos h2] at hl
        exact ih _ (by omega) hl

/-- What is left of a list of digits when the noughts at its end are struck. -/
theorem digs_take {l : List UInt32} {k : Nat} (hk : k ≤ l.length) (hz : ∀ (j : Nat) (u : UInt32), k ≤ j → l[j]? = some u → u = 0) (hl : k = 0 ∨ ∃ u, l[k - 1]? = some u ∧ u ≠ 0) :
    digs (val l) = l.take k := by
  have h1 : val l = val (l.take k) := by
    conv => lhs; rw [← List.take_append_drop k l, val_append]
    rw [val_zeros (l := l.drop k) (fun j u hj => hz (k + j) u (by omega) (by rw [← hj, List.getElem?_drop]))]
    omega
  rw [h1]
  apply digs_val
  intro h
  rcases hl with h0 | ⟨u, hu, hne⟩
  · subst h0; simp at h
  · rcases Nat.eq_zero_or_pos k with h0 | hp
    · subst h0; simp at h
    · have : (l.take k).getLast? = some u := by
        rw [List.getLast?_eq_getElem?, List.length_take, Nat.min_eq_left hk, List.getElem?_take, if_pos (by omega)]
        exact hu
      rw [this] at h
      injection h with h
      exact hne h

theorem digs_len {n k : Nat} (h : n < 4294967296 ^ k) : (digs n).length ≤ k := by
  rcases Nat.lt_or_ge k (digs n).length with hlt | hge
  · exfalso
    have hne : digs n ≠ [] := by intro e; rw [e] at hlt; simp at hlt
    have hd := trim_digs n
    have hs : digs n = (digs n).take ((digs n).length - 1) ++ (digs n).drop ((digs n).length - 1) := (List.take_append_drop _ _).symm
    have hv := congrArg val hs
    rw [val_append, val_digs, List.length_take, Nat.min_eq_left (by omega)] at hv
    have hdr : 0 < val ((digs n).drop ((digs n).length - 1)) := by
      apply val_pos
      · intro hl
        rw [List.getLast?_drop] at hl
        split at hl
        · cases hl
        · exact hd hl
      · simp; omega
    have : 4294967296 ^ k ≤ 4294967296 ^ ((digs n).length - 1) := Nat.pow_le_pow_right (by omega) (by omega)
    have h2 : 4294967296 ^ ((digs n).length - 1) * 1 ≤ 4294967296 ^ ((digs n).length - 1) * val ((digs n).drop ((digs n).length - 1)) := Nat.mul_le_mul_left _ hdr
    omega
  · exact hge
end Go.Proofs.Ytahhgeecikljdaa.Big
