/-
  Jumps, pure: the buckets that a key visits, and how many of them are less than a number.
-/
import Derived.Test.YthebilmeehnkpaaWords
namespace Go.Proofs.Ythebilmeehnkpaa.Jump
set_option linter.unusedVariables false
set_option linter.unusedSimpArgs false

/-- The key behind a key. -/
def nk (key : UInt64) : UInt64 := key * 2862933555777941757 + 1
def dd (key : UInt64) : Nat := key.toNat / 8589934592 + 1
/-- The bucket behind bucket b, the key having turned already. -/
def nb (key : UInt64) (b : Nat) : Nat := (b + 1) * 2147483648 / dd key
theorem dd_pos (key : UInt64) : 1 ≤ dd key := by unfold dd; omega
theorem dd_le (key : UInt64) : dd key ≤ 2147483648 := by
  have := key.toNat_lt
  unfold dd; omega
theorem nb_gt (key : UInt64) (b : Nat) : b < nb key b := by
  unfold nb
  have h1 := dd_pos key
  have h2 := dd_le key
  refine (Nat.le_div_iff_mul_le h1).2 ?_
  exact Nat.mul_le_mul_left _ h2
theorem nb_le (key : UInt64) (b : Nat) : nb key b ≤ (b + 1) * 2147483648 := Nat.div_le_self _ _
theorem nk_nat (key : UInt64) : (nk key).toNat = (key.toNat * 2862933555777941757 + 1) % 18446744073709551616 := by
  unfold nk
  rw [UInt64.toNat_add, UInt64.toNat_mul]
  show (key.toNat * 2862933555777941757 % 18446744073709551616 + 1) % 18446744073709551616 = _
  omega
/-- The key and the bucket behind i jumps. -/
def st (key : UInt64) : Nat → UInt64 × Nat
  | 0 => (key, 0)
  | i + 1 => (nk (st key i).1, nb (nk (st key i).1) (st key i).2)
def kk (key : UInt64) (i : Nat) : UInt64 := (st key i).1
def bk (key : UInt64) (i : Nat) : Nat := (st key i).2
theorem bk_zero (key : UInt64) : bk key 0 = 0 := rfl
theorem kk_zero (key : UInt64) : kk key 0 = key := rfl
theorem kk_succ (key : UInt64) (i : Nat) : kk key (i + 1) = nk (kk key i) := rfl
theorem bk_succ (key : UInt64) (i : Nat) : bk key (i + 1) = nb (nk (kk key i)) (bk key i) := rfl
theorem bk_next (key : UInt64) (i : Nat) : bk key i < bk key (i + 1) := by rw [bk_succ]; exact nb_gt _ _
theorem bk_lt {key : UInt64} {i j : Nat} (h : i < j) : bk key i < bk key j := by
  induction j with
  | zero => omega
  | succ j ih =>
    rcases Nat.lt_or_ge i j with h1 | h1
    · exact Nat.lt_trans (ih h1) (bk_next key j)
    · obtain rfl : i = j := by omega
      exact bk_next key i
theorem bk_le {key : UInt64} {i j : Nat} (h : i ≤ j) : bk key i ≤ bk key j := by
  rcases Nat.lt_or_ge i j with h1 | h1
  · exact Nat.le_of_lt (bk_lt h1)
  · obtain rfl : i = j := by omega
    exact Nat.le_refl _
theorem bk_inj {key : UInt64} {i j : Nat} (h : bk key i = bk key j) : i = j := by
  rcases Nat.lt_trichotomy i j with h1 | h1 | h1
  · have := bk_lt (key := key) h1; omega
  · exact h1
  · have := bk_lt (key := key) h1; omega
theorem bk_ge (key : UInt64) (i : Nat) : i ≤ bk key i := by
  induction i with
  | zero => omega
  | succ i ih => have := bk_next key i; omega
/-- How many of the visited buckets are less than m. -/
def cnt (key : UInt64) : Nat → Nat
  | 0 => 0
  | m + 1 => if bk key (cnt key m) = m then cnt key m + 1 else cnt key m
theorem cnt_iff {key : UInt64} {m i : Nat} : i < cnt key m ↔ bk key i < m := by
  induction m generalizing i with
  | zero => simp [cnt]
  | succ m ih =>
    rw [cnt]
    by_cases h : bk key (cnt key m) = m
    · rw [if_pos h]
      constructor
      · intro hi
        rcases Nat.lt_or_ge i (cnt key m) with h1 | h1
        · have := ih.1 h1; omega
        · obtain rfl : i = cnt key m := by omega
          omega
      · intro hi
        rcases Nat.lt_or_ge (bk key i) m with h1 | h1
        · have := ih.2 h1; omega
        · have : bk key i = bk key (cnt key m) := by omega
          have := bk_inj this
          omega
    · rw [if_neg h, ih]
      constructor
      · intro hi; omega
      · intro hi
        rcases Nat.lt_or_ge (bk key i) m with h1 | h1
        · exact h1
        · have e : bk key i = m := by omega
          have h2 : cnt key m ≤ i := by
            rcases Nat.lt_or_ge i (cnt key m) with h3 | h3
            · have := ih.1 h3; omega
            · exact h3
          rcases Nat.lt_or_ge (cnt key m) i with h3 | h3
          · have := bk_lt (key := key) h3
            have h4 : ¬ cnt key m < cnt key m := Nat.lt_irrefl _
            exact absurd (ih.2 (show bk key (cnt key m) < m by omega)) h4
          · obtain rfl : i = cnt key m := by omega
            exact absurd e h
theorem cnt_pos {key : UInt64} {m : Nat} (h : 1 ≤ m) : 0 < cnt key m := cnt_iff.2 (by rw [bk_zero]; omega)
theorem cnt_le (key : UInt64) (m : Nat) : cnt key m ≤ m := by
  rcases Nat.eq_zero_or_pos (cnt key m) with h | h
  · omega
  · have h1 : cnt key m - 1 < cnt key m := by omega
    have := cnt_iff.1 h1
    have := bk_ge key (cnt key m - 1)
    omega
theorem cnt_unique {key : UInt64} {m c : Nat} (h : ∀ i, i < c ↔ bk key i < m) : cnt key m = c := by
  rcases Nat.lt_trichotomy (cnt key m) c with h1 | h1 | h1
  · have := cnt_iff.2 ((h _).1 h1); omega
  · exact h1
  · have := (h c).2 (cnt_iff.1 h1); omega
theorem cnt_at (key : UInt64) (k : Nat) : cnt key (bk key k) = k := cnt_unique fun i => by
  constructor
  · intro h; exact bk_lt h
  · intro h
    rcases Nat.lt_or_ge i k with h1 | h1
    · exact h1
    · have := bk_le (key := key) h1; omega
theorem cnt_behind (key : UInt64) (k : Nat) : cnt key (bk key k + 1) = k + 1 := by
  rw [cnt, cnt_at, if_pos rfl]
theorem cnt_mono {key : UInt64} {m n : Nat} (h : m ≤ n) : cnt key m ≤ cnt key n := by
  rcases Nat.eq_zero_or_pos (cnt key m) with h0 | h0
  · omega
  · have h1 : cnt key m - 1 < cnt key m := by omega
    have h2 := cnt_iff.1 h1
    have := cnt_iff.2 (show bk key (cnt key m - 1) < n by omega)
    omega
/-- The last visited bucket that is less than m. -/
def last (key : UInt64) (m : Nat) : Nat := bk key (cnt key m - 1)
theorem last_lt {key : UInt64} {m : Nat} (h : 1 ≤ m) : last key m < m := cnt_iff.1 (by have := cnt_pos (key := key) h; omega)
/-- All visited buckets that are less than m. -/
def jumps (key : UInt64) (m : Nat) : List Int := (List.range (cnt key m)).map fun i => (bk key i : Int)
theorem jumps_len (key : UInt64) (m : Nat) : (jumps key m).length = cnt key m := by simp [jumps]
theorem jumps_at {key : UInt64} {m i : Nat} (h : i < cnt key m) : (jumps key m)[i]? = some (bk key i : Int) := by simp [jumps, h]
theorem jumps_last {key : UInt64} {m : Nat} (h : 1 ≤ m) : (jumps key m)[cnt key m - 1]? = some (last key m : Int) := jumps_at (by have := cnt_pos (key := key) h; omega)
/-! ### The laws -/
theorem one_more {key : UInt64} {m : Nat} (h : 1 ≤ m) : last key (m + 1) = last key m ∨ last key (m + 1) = m := by
  unfold last
  rw [cnt]
  by_cases hb : bk key (cnt key m) = m
  · rw [if_pos hb, Nat.add_sub_cancel]; exact .inr hb
  · rw [if_neg hb]; exact .inl rfl
theorem last_behind (key : UInt64) (k : Nat) : last key (bk key k + 1) = bk key k := by unfold last; rw [cnt_behind, Nat.add_sub_cancel]
theorem last_at (key : UInt64) (k : Nat) : last key (bk key (k + 1)) = bk key k := by unfold last; rw [cnt_at, Nat.add_sub_cancel]
theorem less_same {key : UInt64} {m n : Nat} (h : 1 ≤ n) (hnm : n ≤ m) : n ≤ last key m ∨ last key m = last key n := by
  rcases Nat.lt_or_ge (last key m) n with h1 | h1
  · right
    have h2 := cnt_iff.2 h1
    have h3 := cnt_mono (key := key) hnm
    have h4 := cnt_pos (key := key) h
    have : cnt key m = cnt key n := by omega
    unfold last; rw [this]
  · exact .inl h1
theorem less_in {key : UInt64} {m n : Nat} (h : 1 ≤ n) (hnm : n ≤ m) : (last key n : Int) ∈ jumps key m := by
  have h3 := cnt_mono (key := key) hnm
  have h4 := cnt_pos (key := key) h
  exact List.mem_of_getElem? (jumps_at (key := key) (m := m) (i := cnt key n - 1) (by omega))
end Go.Proofs.Ythebilmeehnkpaa.Jump
