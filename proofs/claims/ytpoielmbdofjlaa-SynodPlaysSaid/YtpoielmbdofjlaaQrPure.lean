/-
  Package quorum, pure: sets of voters as numbers; how many a set has; majorities, grids, least sets, those that meet all.
-/
import Derived.WalkKit
import Derived.Lib.BitFns
namespace Go.Proofs.Ytpoielmbdofjlaa.Qr
set_option linter.unusedVariables false
open Go.Lib

/-! ### How many -/
theorem and_half (a b : Nat) : (a &&& b) / 2 = a / 2 &&& b / 2 := Nat.and_div_two
theorem and_low (a b : Nat) : (a &&& b) % 2 = 1 ↔ a % 2 = 1 ∧ b % 2 = 1 := Nat.and_mod_two_eq_one
theorem eq_half {a b : Nat} (h1 : a / 2 = b / 2) (h2 : a % 2 = 1 ↔ b % 2 = 1) : a = b := by omega
theorem pc_zero : ∀ f : Nat, popAux f 0 = 0
  | 0 => rfl
  | f + 1 => by simp [popAux, pc_zero f]
theorem pc_le : ∀ f x : Nat, popAux f x ≤ f
  | 0, _ => Nat.le_refl _
  | f + 1, x => by have := pc_le f (x / 2); unfold popAux; omega
/-- More room counts no more. -/
theorem pc_fuel : ∀ (f g x : Nat), x < 2 ^ f → f ≤ g → popAux g x = popAux f x
  | 0, g, x, hx, _ => by
    obtain rfl : x = 0 := by simpa using hx
    rw [pc_zero, pc_zero]
  | f + 1, g, x, hx, hg => by
    obtain ⟨g', rfl⟩ : ∃ g', g = g' + 1 := ⟨g - 1, by omega⟩
    rw [popAux, popAux, pc_fuel f g' (x / 2) (by rw [Nat.pow_succ] at hx; omega) (by omega)]
/-- Sets that have nobody in common. -/
theorem pc_apart : ∀ (f x y : Nat), x &&& y = 0 → popAux f x + popAux f y ≤ f
  | 0, _, _, _ => Nat.le_refl _
  | f + 1, x, y, h => by
    have h1 : x / 2 &&& y / 2 = 0 := by rw [← and_half, h]
    have h2 := pc_apart f (x / 2) (y / 2) h1
    have h3 : ¬ (x % 2 = 1 ∧ y % 2 = 1) := fun e => by have := (and_low x y).2 e; rw [h] at this; cases this
    unfold popAux
    omega
/-- Of a set so many can be chosen. -/
theorem pc_choose : ∀ (f x k : Nat), k ≤ popAux f x → ∃ t, popAux f t = k ∧ t &&& x = t ∧ t < 2 ^ f
  | 0, x, k, h => by
    obtain rfl : k = 0 := by simpa [popAux] using h
    exact ⟨0, rfl, by simp, by simp⟩
  | f + 1, x, k, h => by
    unfold popAux at h
    by_cases hx : x % 2 = 1 ∧ 0 < k
    · obtain ⟨t, h1, h2, h3⟩ := pc_choose f (x / 2) (k - 1) (by omega)
      refine ⟨2 * t + 1, ?_, ?_, by rw [Nat.pow_succ]; omega⟩
      · unfold popAux
        rw [show (2 * t + 1) / 2 = t by omega, h1]; omega
      · refine eq_half ?_ ?_
        · rw [and_half, show (2 * t + 1) / 2 = t by omega]; exact h2
        · rw [and_low]; omega
    · by_cases h0 : k = 0
      · exact ⟨0, by rw [pc_zero, h0], by simp, Nat.two_pow_pos _⟩
      · obtain ⟨t, h1, h2, h3⟩ := pc_choose f (x / 2) k (by omega)
        refine ⟨2 * t, ?_, ?_, by rw [Nat.pow_succ]; omega⟩
        · unfold popAux
          rw [show (2 * t) / 2 = t by omega, h1]; omega
        · refine eq_half ?_ ?_
          · rw [and_half, show (2 * t) / 2 = t by omega]; exact h2
          · rw [and_low]; omega
/-- A part has no more. -/
theorem pc_part : ∀ (f y s : Nat), y &&& s = y → popAux f y ≤ popAux f s
  | 0, _, _, _ => Nat.le_refl _
  | f + 1, y, s, h => by
    have h1 : y / 2 &&& s / 2 = y / 2 := by rw [← and_half, h]
    have h2 := pc_part f (y / 2) (s / 2) h1
    have h3 : y % 2 = 1 → s % 2 = 1 := fun e => by have := (and_low y s).1 (by rw [h]; exact e); exact this.2
    unfold popAux
    omega
/-- A part that is not all has less. -/
theorem pc_less : ∀ (f y s : Nat), s < 2 ^ f → y &&& s = y → y ≠ s → popAux f y < popAux f s
  | 0, y, s, hs, h, hne => by
    obtain rfl : s = 0 := by simpa using hs
    simp at h
    exact absurd h.symm hne
  | f + 1, y, s, hs, h, hne => by
    have h1 : y / 2 &&& s / 2 = y / 2 := by rw [← and_half, h]
    have h3 : y % 2 = 1 → s % 2 = 1 := fun e => by have := (and_low y s).1 (by rw [h]; exact e); exact this.2
    unfold popAux
    by_cases e : y / 2 = s / 2
    · rw [e]; omega
    · have := pc_less f (y / 2) (s / 2) (by rw [Nat.pow_succ] at hs; omega) h1 e
      omega
/-- The others of n voters. -/
def co (n s : Nat) : Nat := 2 ^ n - 1 - s
theorem co_lt (n s : Nat) : co n s < 2 ^ n := by have := Nat.two_pow_pos n; unfold co; omega
theorem co_bit {n s : Nat} (hs : s < 2 ^ n) (i : Nat) : (co n s).testBit i = (decide (i < n) && !s.testBit i) := by
  unfold co
  rw [show 2 ^ n - 1 - s = 2 ^ n - (s + 1) by omega]
  exact Nat.testBit_two_pow_sub_succ hs i
theorem co_apart {n s : Nat} (hs : s < 2 ^ n) : co n s &&& s = 0 := by
  apply Nat.eq_of_testBit_eq
  intro i
  rw [Nat.testBit_and, co_bit hs]
  cases s.testBit i <;> simp
theorem co_pc : ∀ (n s : Nat), s < 2 ^ n → popAux n (co n s) + popAux n s = n
  | 0, _, _ => rfl
  | n + 1, s, hs => by
    have e1 : co (n + 1) s / 2 = co n (s / 2) := by unfold co; rw [Nat.pow_succ] at hs ⊢; omega
    have e2 : co (n + 1) s % 2 + s % 2 = 1 := by unfold co; rw [Nat.pow_succ] at hs ⊢; omega
    have := co_pc n (s / 2) (by rw [Nat.pow_succ] at hs; omega)
    unfold popAux
    rw [e1]
    omega
/-- Whoever has nobody of a set is among the others. -/
theorem part_co {n s t : Nat} (hs : s < 2 ^ n) (ht : t < 2 ^ n) (h : t &&& s = 0) : t &&& co n s = t := by
  apply Nat.eq_of_testBit_eq
  intro i
  have hb : (t &&& s).testBit i = false := by rw [h]; simp
  rw [Nat.testBit_and] at hb ⊢
  rw [co_bit hs]
  cases ht' : t.testBit i with
  | false => rfl
  | true =>
    rw [ht'] at hb
    have hlt : i < n := by
      rcases Nat.lt_or_ge i n with hi | hi
      · exact hi
      · rw [Nat.testBit_lt_two_pow (Nat.lt_of_lt_of_le ht (Nat.pow_le_pow_right (by decide) hi))] at ht'; cases ht'
    simp at hb
    simp [hlt, hb]
theorem part_apart {x y s : Nat} (h : x &&& y = x) (h2 : y &&& s = 0) : x &&& s = 0 := by
  rw [← h, Nat.and_assoc, h2]; simp
theorem and_comm0 {x y : Nat} (h : x &&& y = 0) : y &&& x = 0 := by rw [Nat.and_comm]; exact h
theorem part_trans {x y z : Nat} (h : x &&& y = x) (h2 : y &&& z = y) : x &&& z = x := by
  rw [← h, Nat.and_assoc, h2]
theorem part_le {x y : Nat} (h : x &&& y = x) : x ≤ y := by rw [← h]; exact Nat.and_le_right
theorem part_anti {x y : Nat} (h : x &&& y = x) (h2 : y &&& x = y) : x = y := by rw [← h, Nat.and_comm, h2]
/-- A set that is none has somebody. -/
theorem part_self {s : Nat} (h : s ≠ 0) : s &&& s ≠ 0 := by simpa using h

/-! ### Lists of sets -/
/-- Rising, each once, of those below N that may be. -/
def rise (N : Nat) (p : Nat → Bool) : List Nat := (List.range N).filter p
theorem mem_rise {N : Nat} {p : Nat → Bool} {s : Nat} : s ∈ rise N p ↔ s < N ∧ p s = true := by simp [rise]
theorem rise_congr {N : Nat} {p q : Nat → Bool} (h : ∀ s, s < N → p s = q s) : rise N p = rise N q :=
  List.filter_congr (fun s hs => h s (List.mem_range.1 hs))
theorem rise_more {N M : Nat} {p : Nat → Bool} (h : N ≤ M) (hp : ∀ s, N ≤ s → s < M → p s = false) : rise M p = rise N p := by
  obtain ⟨k, rfl⟩ : ∃ k, M = N + k := ⟨M - N, by omega⟩
  induction k with
  | zero => rfl
  | succ k ih =>
    have e : rise (N + (k + 1)) p = rise (N + k) p := by
      unfold rise
      rw [← Nat.add_assoc, List.range_succ, List.filter_append]
      simp [hp (N + k) (by omega) (by omega)]
    rw [e]
    exact ih (by omega) (fun s h1 h2 => hp s h1 (by omega))
/-- A part, and not all of it. -/
def Within (y s : Nat) : Prop := y &&& s = y ∧ y ≠ s
instance (y s : Nat) : Decidable (Within y s) := by unfold Within; infer_instance
def isLeast (l : List Nat) (s : Nat) : Bool := decide (s ∈ l ∧ ∀ y ∈ l, ¬ Within y s)
def least (l : List Nat) : List Nat := rise 65536 (isLeast l)
def meets (l : List Nat) (s : Nat) : Bool := decide (∀ x ∈ l, x &&& s ≠ 0)
def trans (n : Nat) (l : List Nat) : List Nat := rise (2 ^ n) (meets l)
def dual (n : Nat) (l : List Nat) : List Nat := least (trans n l)
def maj (n : Nat) : List Nat := rise (2 ^ n) (fun s => popAux n s == n / 2 + 1)
def meetAll (a b : List Nat) : Bool := decide (∀ x ∈ a, ∀ y ∈ b, x &&& y ≠ 0)
def live (l : List Nat) (d : Nat) : Bool := decide (∃ x ∈ l, x &&& d = 0)
theorem mem_least {l : List Nat} {s : Nat} (h : ∀ x ∈ l, x < 65536) : s ∈ least l ↔ s ∈ l ∧ ∀ y ∈ l, ¬ Within y s := by
  unfold least isLeast
  rw [mem_rise, decide_eq_true_iff]
  exact ⟨fun h => h.2, fun h' => ⟨h s h'.1, h'⟩⟩
theorem mem_trans {n : Nat} {l : List Nat} {s : Nat} : s ∈ trans n l ↔ s < 2 ^ n ∧ ∀ x ∈ l, x &&& s ≠ 0 := by
  unfold trans meets
  rw [mem_rise, decide_eq_true_iff]
theorem mem_maj {n s : Nat} : s ∈ maj n ↔ s < 2 ^ n ∧ popAux n s = n / 2 + 1 := by
  unfold maj
  rw [mem_rise]; simp
theorem two_pow_16 {n : Nat} (h : n ≤ 16) : 2 ^ n ≤ 65536 := Nat.pow_le_pow_right (by decide) h
/-- Below every set of a list lies a least one. -/
theorem least_below {l : List Nat} (h : ∀ x ∈ l, x < 65536) : ∀ (s : Nat), s ∈ l → ∃ d ∈ least l, d &&& s = d := by
  intro s
  induction s using Nat.strongRecOn with
  | _ s ih =>
    intro hs
    by_cases hl : ∀ y ∈ l, ¬ Within y s
    · exact ⟨s, (mem_least h).2 ⟨hs, hl⟩, by simp⟩
    · obtain ⟨y, hy⟩ : ∃ y, ¬ (y ∈ l → ¬ Within y s) := Classical.byContradiction (fun hn => hl (fun y hy => Classical.byContradiction (fun hw => hn ⟨y, fun h => hw (h hy)⟩)))
      have hyl : y ∈ l := Classical.byContradiction (fun hn => hy (fun h => absurd h hn))
      have hw : Within y s := Classical.byContradiction (fun hn => hy (fun _ => hn))
      obtain ⟨d, hd1, hd2⟩ := ih y (Nat.lt_of_le_of_ne (part_le hw.1) hw.2) hyl
      exact ⟨d, hd1, part_trans hd2 hw.1⟩
theorem least_ext {l k : List Nat} (hl : ∀ x ∈ l, x < 65536) (hk : ∀ x ∈ k, x < 65536) (h : ∀ s, (s ∈ l ∧ ∀ y ∈ l, ¬ Within y s) ↔ (s ∈ k ∧ ∀ y ∈ k, ¬ Within y s)) : least l = least k :=
  rise_congr (fun s _ => by unfold isLeast; exact decide_eq_decide.2 (h s))
theorem trans_lt {n : Nat} (hn : n ≤ 16) (l : List Nat) : ∀ x ∈ trans n l, x < 65536 := fun x hx => Nat.lt_of_lt_of_le (mem_trans.1 hx).1 (two_pow_16 hn)
theorem least_sub {l : List Nat} (h : ∀ x ∈ l, x < 65536) : ∀ x ∈ least l, x ∈ l := fun x hx => ((mem_least h).1 hx).1

/-! ### The dual of the dual -/
theorem meet_dual {n : Nat} (hn : n ≤ 16) {l : List Nat} {s : Nat} : (∀ d ∈ dual n l, d &&& s ≠ 0) ↔ ∀ t ∈ trans n l, t &&& s ≠ 0 := by
  constructor
  · intro h t ht e
    obtain ⟨d, hd1, hd2⟩ := least_below (trans_lt hn l) t ht
    exact h d hd1 (part_apart hd2 e)
  · intro h d hd
    exact h d (least_sub (trans_lt hn l) d hd)
theorem meet_trans {n : Nat} {l : List Nat} (hl : ∀ x ∈ l, x < 2 ^ n) {s : Nat} (hs : s < 2 ^ n) : (∀ t ∈ trans n l, t &&& s ≠ 0) ↔ ∃ x ∈ l, x &&& s = x := by
  constructor
  · intro h
    refine Classical.byContradiction fun hn => ?_
    refine h (co n s) (mem_trans.2 ⟨co_lt n s, fun x hx e => hn ⟨x, hx, ?_⟩⟩) (co_apart hs)
    have hc : co n (co n s) = s := by unfold co; have := Nat.two_pow_pos n; omega
    have := part_co (co_lt n s) (hl x hx) e
    rwa [hc] at this
  · rintro ⟨x, hx, e⟩ t ht h0
    have h1 := (mem_trans.1 ht).2 x hx
    exact h1 (part_apart e (and_comm0 h0))
theorem dual_lt {n : Nat} (hn : n ≤ 16) (l : List Nat) : ∀ x ∈ dual n l, x < 2 ^ n := fun x hx => (mem_trans.1 (least_sub (trans_lt hn l) x hx)).1
theorem dual_dual {n : Nat} (hn : n ≤ 16) {l : List Nat} (hl : ∀ x ∈ l, x < 2 ^ n) : dual n (dual n l) = least l := by
  have h6 : ∀ x ∈ l, x < 65536 := fun x hx => Nat.lt_of_lt_of_le (hl x hx) (two_pow_16 hn)
  have key : ∀ s, s ∈ trans n (dual n l) ↔ s < 2 ^ n ∧ ∃ x ∈ l, x &&& s = x := fun s => by
    rw [mem_trans]
    constructor
    · rintro ⟨h1, h2⟩
      exact ⟨h1, (meet_trans hl h1).1 ((meet_dual hn).1 h2)⟩
    · rintro ⟨h1, h2⟩
      exact ⟨h1, (meet_dual hn).2 ((meet_trans hl h1).2 h2)⟩
  refine least_ext (trans_lt hn _) h6 fun s => ?_
  constructor
  · rintro ⟨h1, h2⟩
    obtain ⟨hs, x, hx, e⟩ := (key s).1 h1
    have hxs : x = s := Classical.byContradiction fun hne => h2 x ((key x).2 ⟨hl x hx, x, hx, by simp⟩) ⟨e, hne⟩
    refine ⟨hxs ▸ hx, fun y hy hw => h2 y ((key y).2 ⟨hl y hy, y, hy, by simp⟩) hw⟩
  · rintro ⟨h1, h2⟩
    refine ⟨(key s).2 ⟨hl s h1, s, h1, by simp⟩, fun y hy hw => ?_⟩
    obtain ⟨_, x, hx, e⟩ := (key y).1 hy
    refine h2 x hx ⟨part_trans e hw.1, fun he => ?_⟩
    subst he
    exact hw.2 (part_anti hw.1 e)
theorem dual_meets {n : Nat} (hn : n ≤ 16) (l : List Nat) : meetAll (dual n l) l = true :=
  decide_eq_true fun d hd x hx => fun e => (mem_trans.1 (least_sub (trans_lt hn l) d hd)).2 x hx (and_comm0 e)

/-! ### Majorities -/
theorem maj_meet {n x y : Nat} (hx : x ∈ maj n) (hy : y ∈ maj n) : x &&& y ≠ 0 := fun e => by
  have := pc_apart n x y e
  rw [(mem_maj.1 hx).2, (mem_maj.1 hy).2] at this
  omega
theorem maj_meets (n : Nat) : meetAll (maj n) (maj n) = true := decide_eq_true fun _ hx _ hy => maj_meet hx hy
theorem maj_live {n d : Nat} (hd : d < 2 ^ n) : live (maj n) d = decide (2 * popAux n d < n) := by
  unfold live
  refine decide_eq_decide.2 ⟨?_, fun h => ?_⟩
  · rintro ⟨x, hx, e⟩
    have := pc_apart n x d e
    rw [(mem_maj.1 hx).2] at this
    omega
  · have hc := co_pc n d hd
    obtain ⟨t, h1, h2, h3⟩ := pc_choose n (co n d) (n / 2 + 1) (by omega)
    exact ⟨t, mem_maj.2 ⟨h3, h1⟩, part_apart h2 (co_apart hd)⟩
theorem trans_maj {n : Nat} (ho : n % 2 = 1) {s : Nat} : s ∈ trans n (maj n) ↔ s < 2 ^ n ∧ n / 2 + 1 ≤ popAux n s := by
  rw [mem_trans]
  constructor
  · rintro ⟨hs, h⟩
    refine ⟨hs, ?_⟩
    have hc := co_pc n s hs
    refine Classical.byContradiction fun hlt => ?_
    obtain ⟨t, h1, h2, h3⟩ := pc_choose n (co n s) (n / 2 + 1) (by omega)
    exact h t (mem_maj.2 ⟨h3, h1⟩) (part_apart h2 (co_apart hs))
  · rintro ⟨hs, h⟩
    refine ⟨hs, fun x hx e => ?_⟩
    have := pc_apart n x s e
    rw [(mem_maj.1 hx).2] at this
    omega
theorem dual_maj {n : Nat} (hn : n ≤ 16) (ho : n % 2 = 1) : dual n (maj n) = maj n := by
  have e : maj n = rise 65536 (fun s => decide (s < 2 ^ n) && (popAux n s == n / 2 + 1)) := by
    rw [rise_more (two_pow_16 hn) (fun s h1 _ => by simp; omega)]
    exact rise_congr (fun s hs => by simp [hs])
  conv => rhs; rw [e]
  refine rise_congr (fun s hs => ?_)
  unfold isLeast
  rw [Bool.eq_iff_iff, decide_eq_true_iff]
  simp only [Bool.and_eq_true, decide_eq_true_eq, beq_iff_eq]
  constructor
  · rintro ⟨h1, h2⟩
    obtain ⟨h3, h4⟩ := (trans_maj ho).1 h1
    refine ⟨h3, ?_⟩
    refine Classical.byContradiction fun hne => ?_
    obtain ⟨t, g1, g2, g3⟩ := pc_choose n s (n / 2 + 1) h4
    exact h2 t ((trans_maj ho).2 ⟨g3, by omega⟩) ⟨g2, fun he => by subst he; omega⟩
  · rintro ⟨h1, h2⟩
    refine ⟨(trans_maj ho).2 ⟨h1, by omega⟩, fun y hy hw => ?_⟩
    have := (trans_maj ho).1 hy
    have := pc_less n y s h1 hw.1 hw.2
    omega
theorem live_meet (l : List Nat) (d : Nat) : live l d = !meetAll l [d] := by
  unfold live meetAll
  rw [← decide_not]
  refine decide_eq_decide.2 ⟨?_, fun h => ?_⟩
  · rintro ⟨x, hx, e⟩ h
    exact h x hx d (by simp) e
  · refine Classical.byContradiction fun hn => h fun x hx y hy e => ?_
    obtain rfl : y = d := by simpa using hy
    exact hn ⟨x, hx, e⟩
set_option maxRecDepth 100000 in
theorem maj_len : ∀ n : Fin 11, (maj n.val).length ≤ 252 := by decide +kernel

/-! ### Grids -/
def orAll : List Nat → Nat
  | [] => 0
  | j :: js => 2 ^ j ||| orAll js
theorem orAll_bit (l : List Nat) (i : Nat) : (orAll l).testBit i = decide (i ∈ l) := by
  induction l with
  | nil => simp [orAll]
  | cons j js ih =>
    rw [orAll, Nat.testBit_or, ih, Nat.testBit_two_pow]
    by_cases h : j = i
    · simp [h]
    · by_cases h2 : i ∈ js <;> simp [h, h2, Ne.symm h]
theorem orAll_app (a b : List Nat) : orAll (a ++ b) = orAll a ||| orAll b := by
  induction a with
  | nil => simp [orAll]
  | cons j js ih => rw [List.cons_append, orAll, ih, orAll, Nat.or_assoc]
theorem orAll_snoc (a : List Nat) (j : Nat) : orAll (a ++ [j]) = orAll a ||| 2 ^ j := by rw [orAll_app]; simp [orAll]
theorem orAll_lt {l : List Nat} {n : Nat} (h : ∀ j ∈ l, j < n) : orAll l < 2 ^ n := by
  refine Nat.lt_pow_two_of_testBit _ fun i hi => ?_
  rw [orAll_bit]
  exact decide_eq_false fun hm => by have := h i hm; omega
/-- The column and the row of place k. -/
def cross (r c k : Nat) : List Nat := (List.range r).map (fun x => x * c + k % c) ++ (List.range c).map (fun y => k / c * c + y)
def gset (r c k : Nat) : Nat := orAll (cross r c k)
def isGrid (r c s : Nat) : Bool := decide (∃ k ∈ List.range (r * c), gset r c k = s)
def grid (r c : Nat) : List Nat := rise 65536 (isGrid r c)
theorem cross_lt {r c k : Nat} (hc : 0 < c) (hk : k < r * c) : ∀ j ∈ cross r c k, j < r * c := by
  have h1 : k / c < r := Nat.div_lt_of_lt_mul (by rw [Nat.mul_comm]; exact hk)
  intro j hj
  rcases List.mem_append.1 hj with hj | hj
  · obtain ⟨x, hx, rfl⟩ := List.mem_map.1 hj
    have hx := List.mem_range.1 hx
    have h2 := Nat.mod_lt k hc
    calc x * c + k % c < x * c + c := by omega
      _ = (x + 1) * c := by rw [Nat.add_mul, Nat.one_mul]
      _ ≤ r * c := Nat.mul_le_mul_right c hx
  · obtain ⟨y, hy, rfl⟩ := List.mem_map.1 hj
    have hy := List.mem_range.1 hy
    calc k / c * c + y < k / c * c + c := by omega
      _ = (k / c + 1) * c := by rw [Nat.add_mul, Nat.one_mul]
      _ ≤ r * c := Nat.mul_le_mul_right c h1
theorem cross_meet {r c k m : Nat} (hc : 0 < c) (hk : k < r * c) : ∃ j, j ∈ cross r c k ∧ j ∈ cross r c m := by
  have h1 : k / c < r := Nat.div_lt_of_lt_mul (by rw [Nat.mul_comm]; exact hk)
  refine ⟨k / c * c + m % c, List.mem_append_right _ (List.mem_map.2 ⟨m % c, List.mem_range.2 (Nat.mod_lt m hc), rfl⟩), List.mem_append_left _ (List.mem_map.2 ⟨k / c, List.mem_range.2 h1, rfl⟩)⟩
theorem gset_lt {r c k : Nat} (hc : 0 < c) (hk : k < r * c) (h : r * c ≤ 16) : gset r c k < 65536 :=
  Nat.lt_of_lt_of_le (orAll_lt (cross_lt hc hk)) (two_pow_16 h)
theorem mem_grid {r c s : Nat} (hc : 0 < c) (h : r * c ≤ 16) : s ∈ grid r c ↔ ∃ k, k < r * c ∧ gset r c k = s := by
  unfold grid isGrid
  rw [mem_rise, decide_eq_true_iff]
  constructor
  · rintro ⟨_, k, hk, e⟩
    exact ⟨k, List.mem_range.1 hk, e⟩
  · rintro ⟨k, hk, e⟩
    exact ⟨by rw [← e]; exact gset_lt hc hk h, k, List.mem_range.2 hk, e⟩
theorem grid_meets {r c : Nat} (hc : 0 < c) (h : r * c ≤ 16) : meetAll (grid r c) (grid r c) = true := by
  refine decide_eq_true fun x hx y hy e => ?_
  obtain ⟨k, hk, rfl⟩ := (mem_grid hc h).1 hx
  obtain ⟨m, _, rfl⟩ := (mem_grid hc h).1 hy
  obtain ⟨j, h1, h2⟩ := cross_meet (m := m) hc hk
  have hb : (gset r c k &&& gset r c m).testBit j = false := by rw [e]; simp
  rw [Nat.testBit_and] at hb
  unfold gset at hb
  rw [orAll_bit, orAll_bit, decide_eq_true h1, decide_eq_true h2] at hb
  cases hb
end Go.Proofs.Ytpoielmbdofjlaa.Qr
