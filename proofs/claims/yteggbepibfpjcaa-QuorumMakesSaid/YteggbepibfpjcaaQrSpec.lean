/-
  What the laws on quorums take of the program: Majorities, Grid, Meet, Live, Least, Dual.
-/
import Derived.Test.YteggbepibfpjcaaQrMem
namespace Go.Proofs.Yteggbepibfpjcaa.Qr
set_option linter.unusedVariables false
set_option linter.unusedSimpArgs false
open Go.RowKit Mem
open Go.Lib

/-- Sets and what is wrong. -/
def SetsErr (l : List Nat) (n : Nat) (k : Int) (W : World) (x : Ending) (W' : World) : Prop :=
  ∃ A c, x = .returned (.tuple #[.slice A n c, .int .i64 k]) ∧ Reads W' A (l.map w16) ∧ Below W.heap.size W W'
def majE (m : Int) : Int := if m < 1 ∨ 10 < m then 2 else 0
def majL (m : Int) : List Nat := if majE m = 0 then maj m.toNat else []
def gridE (r c : Int) : Int := if r < 1 ∨ c < 1 ∨ 16 < r ∨ 16 < c ∨ 16 < r * c then 2 else 0
def gridL (r c : Int) : List Nat := if gridE r c = 0 then grid r.toNat c.toNat else []
def meetE (a b : List Nat) : Int := if 400 < a.length ∨ 400 < b.length then 2 else 0
def meetB (a b : List Nat) : Bool := if meetE a b = 0 then meetAll a b else false
def liveE (l : List Nat) : Int := if 400 < l.length then 2 else 0
def liveB (l : List Nat) (d : Nat) : Bool := if liveE l = 0 then live l d else false
def leastE (l : List Nat) : Int := if 400 < l.length then 2 else 0
def leastL (l : List Nat) : List Nat := if leastE l = 0 then least l else []
def dualE (m : Int) (l : List Nat) : Int := if m < 1 ∨ 10 < m ∨ 400 < l.length then 2 else if ∃ s ∈ l, 2 ^ m.toNat ≤ s then 1 else 0
def dualL (m : Int) (l : List Nat) : List Nat := if dualE m l = 0 then dual m.toNat l else []
def MajSpec : Prop := ∀ (m : Int) (V : World) (l : List Nat) (n : Nat) (k : Int), majE m = k → majL m = l → l.length = n → Calls Try.prog 10 #[.int .i64 m] V (SetsErr l n k V)
def GridSpec : Prop := ∀ (r c : Int) (V : World) (l : List Nat) (n : Nat) (k : Int), gridE r c = k → gridL r c = l → l.length = n → Calls Try.prog 11 #[.int .i64 r, .int .i64 c] V (SetsErr l n k V)
def MeetSpec : Prop := ∀ (A : Option Addr) (a : List Nat) (n ca : Nat) (B : Option Addr) (b : List Nat) (m cb : Nat) (V : World) (r : Bool) (k : Int), a.length = n → n ≤ 70368744177664 → Reads V A (a.map w16) → Fits a → b.length = m → m ≤ 70368744177664 → Reads V B (b.map w16) → Fits b →
  meetE a b = k → meetB a b = r → Calls Try.prog 12 #[.slice A n ca, .slice B m cb] V (Gave (.tuple #[.bool r, .int .i64 k]) V)
def LiveSpec : Prop := ∀ (A : Option Addr) (l : List Nat) (n ca d : Nat) (V : World) (r : Bool) (k : Int), l.length = n → n ≤ 70368744177664 → Reads V A (l.map w16) → Fits l → d < 65536 →
  liveE l = k → liveB l d = r → Calls Try.prog 13 #[.slice A n ca, .int .u16 d] V (Gave (.tuple #[.bool r, .int .i64 k]) V)
def LeastSpec : Prop := ∀ (A : Option Addr) (l : List Nat) (n ca : Nat) (V : World) (l0 : List Nat) (n0 : Nat) (k : Int), l.length = n → n ≤ 70368744177664 → Reads V A (l.map w16) → Fits l →
  leastE l = k → leastL l = l0 → l0.length = n0 → Calls Try.prog 20 #[.slice A n ca] V (SetsErr l0 n0 k V)
def DualSpec : Prop := ∀ (m : Int) (A : Option Addr) (l : List Nat) (n ca : Nat) (V : World) (l0 : List Nat) (n0 : Nat) (k : Int), l.length = n → n ≤ 70368744177664 → Reads V A (l.map w16) → Fits l →
  dualE m l = k → dualL m l = l0 → l0.length = n0 → Calls Try.prog 21 #[.int .i64 m, .slice A n ca] V (SetsErr l0 n0 k V)

theorem majE_vals (m : Int) : majE m = 0 ∧ 1 ≤ m ∧ m ≤ 10 ∨ majE m = 2 := by
  unfold majE
  split
  · exact .inr rfl
  · exact .inl ⟨rfl, by omega, by omega⟩
theorem gridE_vals (r c : Int) : gridE r c = 0 ∧ 1 ≤ r ∧ 1 ≤ c ∧ r ≤ 16 ∧ c ≤ 16 ∧ r * c ≤ 16 ∨ gridE r c = 2 := by
  unfold gridE
  split
  · exact .inr rfl
  · exact .inl ⟨rfl, by omega, by omega, by omega, by omega, by omega⟩
theorem rise_lt (N : Nat) (p : Nat → Bool) (h : N ≤ 65536) : Fits (rise N p) := fun s hs => by have := (mem_rise.1 hs).1; omega
theorem majL_fits (m : Int) : Fits (majL m) := by
  unfold majL
  split
  · rename_i h
    rcases majE_vals m with ⟨_, h1, h2⟩ | h2
    · exact rise_lt _ _ (two_pow_16 (by omega))
    · rw [h] at h2; cases h2
  · intro s hs; simp at hs
theorem gridL_fits (r c : Int) : Fits (gridL r c) := by
  unfold gridL
  split
  · exact rise_lt _ _ (Nat.le_refl _)
  · intro s hs; simp at hs
theorem leastL_fits (l : List Nat) : Fits (leastL l) := by
  unfold leastL
  split
  · exact rise_lt _ _ (Nat.le_refl _)
  · intro s hs; simp at hs
theorem dualL_fits (m : Int) (l : List Nat) : Fits (dualL m l) := by
  unfold dualL
  split
  · exact rise_lt _ _ (Nat.le_refl _)
  · intro s hs; simp at hs
/-- How many of a list of others there are. -/
theorem rise_mem_len (N : Nat) : ∀ (K : List Nat), (rise N (fun s => decide (s ∈ K))).length ≤ K.length := by
  have step : ∀ (x : Nat) (K : List Nat) (N : Nat), (rise N (fun s => decide (s ∈ x :: K))).length ≤ (rise N (fun s => decide (s ∈ K))).length + (if x < N then 1 else 0) := by
    intro x K N
    induction N with
    | zero => simp [rise]
    | succ N ih =>
      have e : ∀ p : Nat → Bool, (rise (N + 1) p).length = (rise N p).length + (if p N = true then 1 else 0) := fun p => by
        unfold rise
        rw [List.range_succ, List.filter_append, List.length_append]
        cases h : p N <;> simp [h]
      rw [e, e]
      generalize (rise N (fun s => decide (s ∈ x :: K))).length = a at ih ⊢
      generalize (rise N (fun s => decide (s ∈ K))).length = b at ih ⊢
      simp only [decide_eq_true_eq, List.mem_cons]
      by_cases h1 : N = x
      · subst h1
        rw [if_neg (by omega)] at ih
        rw [if_pos (.inl rfl), if_pos (show N < N + 1 by omega)]
        split <;> omega
      · by_cases h2 : N ∈ K
        · rw [if_pos (.inr h2), if_pos h2]
          by_cases h3 : x < N
          · rw [if_pos h3] at ih; rw [if_pos (by omega)]; omega
          · rw [if_neg h3] at ih; rw [if_neg (by omega)]; omega
        · rw [if_neg (by rintro (h | h) <;> contradiction), if_neg h2]
          by_cases h3 : x < N
          · rw [if_pos h3] at ih; rw [if_pos (by omega)]; omega
          · rw [if_neg h3] at ih; rw [if_neg (by omega)]; omega
  intro K
  induction K with
  | nil => simp [rise]
  | cons x K ih =>
    have := step x K N
    rw [List.length_cons]
    split at this <;> omega
theorem grid_len (r c : Nat) : (grid r c).length ≤ r * c := by
  have h := rise_mem_len 65536 ((List.range (r * c)).map (gset r c))
  rw [List.length_map, List.length_range] at h
  have e : grid r c = rise 65536 (fun s => decide (s ∈ (List.range (r * c)).map (gset r c))) := rise_congr (fun s _ => by
    unfold isGrid
    exact decide_eq_decide.2 (by rw [List.mem_map]))
  rw [e]
  exact h
theorem majL_len (m : Int) : (majL m).length ≤ 252 := by
  unfold majL
  split
  · rename_i h
    rcases majE_vals m with ⟨_, h1, h2⟩ | h2
    · exact maj_len ⟨m.toNat, by omega⟩
    · rw [h] at h2; cases h2
  · simp
theorem gridL_len (r c : Int) : (gridL r c).length ≤ 16 := by
  unfold gridL
  split
  · rename_i h
    rcases gridE_vals r c with ⟨_, h1, h2, h3, h4, h5⟩ | h2
    · have := grid_len r.toNat c.toNat
      have e : ((r.toNat * c.toNat : Nat) : Int) = r * c := by rw [Int.natCast_mul, Int.toNat_of_nonneg (by omega), Int.toNat_of_nonneg (by omega)]
      omega
    · rw [h] at h2; cases h2
  · simp
theorem majL_meet (m : Int) : meetE (majL m) (majL m) = 0 ∧ meetB (majL m) (majL m) = true := by
  have h := majL_len m
  have e : meetE (majL m) (majL m) = 0 := by unfold meetE; rw [if_neg (by omega)]
  refine ⟨e, ?_⟩
  unfold meetB
  rw [if_pos e]
  unfold majL
  split
  · exact maj_meets _
  · rfl
theorem gridL_meet (r c : Int) : meetE (gridL r c) (gridL r c) = 0 ∧ meetB (gridL r c) (gridL r c) = true := by
  have h := gridL_len r c
  have e : meetE (gridL r c) (gridL r c) = 0 := by unfold meetE; rw [if_neg (by omega)]
  refine ⟨e, ?_⟩
  unfold meetB
  rw [if_pos e]
  unfold gridL
  split
  · rename_i h0
    rcases gridE_vals r c with ⟨_, h1, h2, h3, h4, h5⟩ | h2
    · have e : ((r.toNat * c.toNat : Nat) : Int) = r * c := by rw [Int.natCast_mul, Int.toNat_of_nonneg (by omega), Int.toNat_of_nonneg (by omega)]
      exact grid_meets (by omega) (by omega)
    · rw [h0] at h2; cases h2
  · rfl
theorem dualE_zero {m : Int} {l : List Nat} (h : dualE m l = 0) : 1 ≤ m ∧ m ≤ 10 ∧ l.length ≤ 400 ∧ ∀ s ∈ l, s < 2 ^ m.toNat := by
  unfold dualE at h
  split at h
  · cases h
  · split at h
    · cases h
    · rename_i h1 h2
      exact ⟨by omega, by omega, by omega, fun s hs => Nat.lt_of_not_le fun h3 => h2 ⟨s, hs, h3⟩⟩
theorem dualE_of {m : Int} {l : List Nat} (h1 : 1 ≤ m) (h2 : m ≤ 10) (h3 : l.length ≤ 400) (h4 : ∀ s ∈ l, s < 2 ^ m.toNat) : dualE m l = 0 := by
  unfold dualE
  rw [if_neg (by omega), if_neg (by rintro ⟨s, hs, h⟩; have := h4 s hs; omega)]
theorem dualE_vals (m : Int) (l : List Nat) : dualE m l = 0 ∨ dualE m l = 1 ∨ dualE m l = 2 := by
  unfold dualE
  split
  · simp
  · split <;> simp
/-- The dual of the dual, as the program answers it. -/
theorem dualL_dual {m : Int} {l : List Nat} (h : dualE m l = 0) (hl : (dualL m l).length ≤ 400) : dualE m (dualL m l) = 0 ∧ dualL m (dualL m l) = least l ∧ meetE (dualL m l) l = 0 ∧ meetB (dualL m l) l = true := by
  obtain ⟨h1, h2, h3, h4⟩ := dualE_zero h
  have hn : m.toNat ≤ 16 := by omega
  have e : dualL m l = dual m.toNat l := if_pos h
  have e0 : dualE m (dualL m l) = 0 := dualE_of h1 h2 hl (by rw [e]; exact dual_lt hn l)
  have em : meetE (dualL m l) l = 0 := by unfold meetE; rw [if_neg (by omega)]
  refine ⟨e0, ?_, em, ?_⟩
  · unfold dualL at *
    rw [if_pos e0, if_pos h]
    exact dual_dual hn h4
  · unfold meetB
    rw [if_pos em, e]
    exact dual_meets hn l
theorem maj_lt (n : Nat) : ∀ s ∈ maj n, s < 2 ^ n := fun s hs => (mem_maj.1 hs).1
theorem dualL_maj {m : Int} (h : majE m = 0) (ho : m.toNat % 2 = 1) : dualE m (majL m) = 0 ∧ dualL m (majL m) = majL m := by
  have e : majL m = maj m.toNat := if_pos h
  rcases majE_vals m with ⟨_, h1, h2⟩ | h2
  · have e0 : dualE m (majL m) = 0 := dualE_of h1 h2 (by have := majL_len m; omega) (by rw [e]; exact maj_lt _)
    refine ⟨e0, ?_⟩
    unfold dualL
    rw [if_pos e0, e]
    exact dual_maj (by omega) ho
  · rw [h] at h2; cases h2
theorem liveB_maj {m : Int} {d : Nat} (h : majE m = 0) (hd : d < 2 ^ m.toNat) : liveE (majL m) = 0 ∧ liveB (majL m) d = decide (2 * popAux m.toNat d < m.toNat) := by
  have e : majL m = maj m.toNat := if_pos h
  have e0 : liveE (majL m) = 0 := by unfold liveE; rw [if_neg (by have := majL_len m; omega)]
  refine ⟨e0, ?_⟩
  unfold liveB
  rw [if_pos e0, e]
  exact maj_live hd
theorem live_or_meet (l : List Nat) (d : Nat) : (liveE l = 0 ∧ meetE l [d] = 0 ∧ liveB l d = !meetB l [d]) ∨ (liveE l = 2 ∧ meetE l [d] = 2) := by
  by_cases h : 400 < l.length
  · exact .inr ⟨if_pos h, if_pos (.inl h)⟩
  · have e1 : liveE l = 0 := if_neg h
    have e2 : meetE l [d] = 0 := by unfold meetE; rw [if_neg (by simp; omega)]
    refine .inl ⟨e1, e2, ?_⟩
    unfold liveB meetB
    rw [if_pos e1, if_pos e2]
    exact live_meet l d

/-! ### What the laws try first -/
theorem least_small {l : List Nat} {N : Nat} (hN : N ≤ 65536) (h : ∀ x ∈ l, x < N) : least l = rise N (isLeast l) :=
  rise_more hN (fun s h1 _ => decide_eq_false fun hm => by have := h s hm.1; omega)
theorem grid_small {r c : Nat} (hc : 0 < c) (h : r * c ≤ 16) : grid r c = rise (2 ^ (r * c)) (isGrid r c) :=
  rise_more (two_pow_16 h) (fun s h1 _ => decide_eq_false fun ⟨k, hk, e⟩ => by
    have := orAll_lt (cross_lt hc (List.mem_range.1 hk))
    unfold gset at e
    omega)
theorem maj0 : majE 3 = 0 ∧ majL 3 = [3, 5, 6] := by decide +kernel
theorem grid0 : gridE 2 2 = 0 ∧ gridL 2 2 = [7, 11, 13, 14] := by
  refine ⟨by decide, ?_⟩
  unfold gridL
  rw [if_pos (by decide)]
  show grid 2 2 = _
  rw [grid_small (by decide) (by decide)]
  decide +kernel
theorem dual0 : dualE 3 [1, 6] = 0 ∧ dualL 3 [1, 6] = [3, 5] := by
  have h : dualE 3 [1, 6] = 0 := by decide
  refine ⟨h, ?_⟩
  unfold dualL
  rw [if_pos h]
  show least (trans 3 [1, 6]) = _
  rw [least_small (N := 8) (by decide) (fun x hx => (mem_trans.1 hx).1)]
  decide +kernel
theorem meet0 : meetE [1] [2] = 0 ∧ meetB [1] [2] = false := by decide
end Go.Proofs.Yteggbepibfpjcaa.Qr
