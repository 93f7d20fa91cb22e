/-
  Package straw: powers of draws as rows of digits, pure; cmp.Compare and cmp.Or of numbers, slices.Compare of two rows of digits; a fraction in memory, times and power.
-/
import Derived.Test.YtcbecpgllebepaaSwPure
import Derived.Test.YtcbecpgllebepaaRow
import Derived.Test.YtcbecpgllebepaaShelf
import Derived.Test.YtcbecpgllebepaaSwMem
import Derived.Laws.Rows
import Derived.Laws.Tables
import Derived.Laws.ResultCell
import Derived.Great.BuildSlice
namespace Go.Proofs.Ytcbecpgllebepaa.Straw
set_option linter.unusedVariables false
set_option linter.unusedSimpArgs false

/-- The digit at place i of 101 (the first stands before the point). -/
def dg (X i : Nat) : Nat := X / 65536 ^ (100 - i) % 65536
theorem dg_lt (X i : Nat) : dg X i < 65536 := Nat.mod_lt _ (by omega)
/-- x to the n, with a hundred digits behind the point. -/
def pw (x n : Nat) : Nat := x ^ n * 65536 ^ (100 - n)
theorem pw_lt {x n : Nat} (hx : x ≤ 65536) (hn : n ≤ 100) : pw x n < 65536 ^ 101 := by
  unfold pw
  have h1 : x ^ n * 65536 ^ (100 - n) ≤ 65536 ^ n * 65536 ^ (100 - n) := Nat.mul_le_mul_right _ (Nat.pow_le_pow_left hx n)
  rw [← Nat.pow_add, show n + (100 - n) = 100 by omega] at h1
  exact Nat.lt_of_le_of_lt h1 (Nat.pow_lt_pow_right (by omega) (by omega))
theorem head_dg {X i : Nat} (hi : i ≤ 100) : X / 65536 ^ (100 - i) = X / 65536 ^ (101 - i) * 65536 + dg X i := by
  unfold dg
  rw [show 101 - i = 100 - i + 1 by omega, Nat.pow_succ, ← Nat.div_div_eq_div_mul]
  have := Nat.div_add_mod (X / 65536 ^ (100 - i)) 65536
  omega
/-- Alike in the digits before the place i. -/
def Alike (X Y i : Nat) : Prop := X / 65536 ^ (101 - i) = Y / 65536 ^ (101 - i)
theorem alike_zero {X Y : Nat} (hX : X < 65536 ^ 101) (hY : Y < 65536 ^ 101) : Alike X Y 0 := by
  unfold Alike
  rw [Nat.div_eq_of_lt hX, Nat.div_eq_of_lt hY]
theorem alike_next {X Y i : Nat} (hi : i ≤ 100) (h : Alike X Y i) (hd : dg X i = dg Y i) : Alike X Y (i + 1) := by
  unfold Alike at *
  rw [show 101 - (i + 1) = 100 - i by omega, head_dg hi, head_dg hi, h, hd]
theorem alike_end {X Y : Nat} (h : Alike X Y 101) : X = Y := by
  unfold Alike at h; simpa using h
theorem alike_lt {X Y i : Nat} (hi : i ≤ 100) (h : Alike X Y i) (hd : dg X i < dg Y i) : X < Y := by
  unfold Alike at h
  have h1 := head_dg (X := X) hi
  have h2 := head_dg (X := Y) hi
  rw [h] at h1
  rcases Nat.lt_or_ge X Y with h3 | h3
  · exact h3
  · have := Nat.div_le_div_right (c := 65536 ^ (100 - i)) h3
    omega
/-- What is carried from behind the place i, of n digits, times x. -/
def carry (x n i : Nat) : Nat := x * (x ^ n % 65536 ^ (n - i)) / 65536 ^ (n - i)
theorem carry_start (x n : Nat) : carry x n n = 0 := by unfold carry; simp [Nat.mod_one]
theorem carry_lt {x n i : Nat} (hx : x ≤ 65536) : carry x n i ≤ 65536 := by
  unfold carry
  have hp : 0 < 65536 ^ (n - i) := Nat.pow_pos (by omega)
  refine Nat.div_le_of_le_mul ?_
  rw [Nat.mul_comm]
  exact Nat.mul_le_mul (Nat.le_of_lt (Nat.mod_lt _ hp)) hx
theorem dg_pw {x n i : Nat} (hn : n ≤ 100) (hi : i ≤ n) : dg (pw x n) i = x ^ n / 65536 ^ (n - i) % 65536 := by
  unfold dg pw
  rw [show 100 - i = (n - i) + (100 - n) by omega, Nat.pow_add, Nat.mul_div_mul_right _ _ (Nat.pow_pos (by omega))]
theorem dg_pw_far {x n i : Nat} (hn : n ≤ 100) (hi : n < i) (hi2 : i ≤ 100) : dg (pw x n) i = 0 := by
  unfold dg pw
  rw [show 100 - n = (100 - i) + (i - n - 1) + 1 by omega, Nat.pow_succ, Nat.pow_add, show x ^ n * (65536 ^ (100 - i) * 65536 ^ (i - n - 1) * 65536) = 65536 ^ (100 - i) * (x ^ n * 65536 ^ (i - n - 1) * 65536) by ac_rfl, Nat.mul_div_cancel_left _ (Nat.pow_pos (by omega)), Nat.mul_mod_left]
/-- The digit times x, and the carry from behind: what it leaves, what it carries on. -/
theorem carry_step {x n i : Nat} (hn : n ≤ 99) (hi : i ≤ n) :
    (carry x n i + dg (pw x n) i * x) % 65536 = dg (pw x (n + 1)) (i + 1) ∧ (i ≠ 0 → (carry x n i + dg (pw x n) i * x) / 65536 = carry x n (i - 1)) ∧ (i = 0 → x ^ n < 65536 ^ (n + 1) → (carry x n i + dg (pw x n) i * x) / 65536 = x ^ (n + 1) / 65536 ^ (n + 1)) := by
  rw [dg_pw (by omega) hi, dg_pw (by omega) (show i + 1 ≤ n + 1 by omega), show n + 1 - (i + 1) = n - i by omega]
  unfold carry
  generalize hm : n - i = m
  generalize hN : x ^ n = N
  have hp : 0 < 65536 ^ m := Nat.pow_pos (by omega)
  have e1 : x * (N % 65536 ^ (m + 1)) / 65536 ^ m = x * (N % 65536 ^ m) / 65536 ^ m + N / 65536 ^ m % 65536 * x := by
    have h : N % 65536 ^ (m + 1) = N % 65536 ^ m + 65536 ^ m * (N / 65536 ^ m % 65536) := by rw [Nat.pow_succ, Nat.mod_mul]
    rw [h, Nat.mul_add, show x * (65536 ^ m * (N / 65536 ^ m % 65536)) = 65536 ^ m * (N / 65536 ^ m % 65536 * x) by ac_rfl, Nat.add_mul_div_left _ _ hp]
  rw [← e1]
  refine ⟨?_, ?_, ?_⟩
  · rw [show x ^ (n + 1) = x * N by rw [Nat.pow_succ, hN, Nat.mul_comm]]
    have h := Nat.div_add_mod N (65536 ^ (m + 1))
    generalize hq : N / 65536 ^ (m + 1) = q at h
    generalize hr : N % 65536 ^ (m + 1) = r at h
    have e2 : x * N = x * r + 65536 ^ m * (x * q * 65536) := by rw [← h, Nat.pow_succ]; rw [Nat.mul_add, Nat.add_comm]; congr 1; ac_rfl
    rw [e2, Nat.add_mul_div_left _ _ hp, Nat.add_mul_mod_self_right]
  · intro h0
    rw [show n - (i - 1) = m + 1 by omega, Nat.div_div_eq_div_mul, Nat.pow_succ]
  · intro h0 hlt
    subst h0
    have : m = n := by omega
    subst this
    rw [Nat.mod_eq_of_lt hlt, Nat.div_div_eq_div_mul, ← Nat.pow_succ, show x ^ (m + 1) = x * N by rw [Nat.pow_succ, hN, Nat.mul_comm]]
theorem dg_pw_zero {x n : Nat} (hx : x ≤ 65536) (hn : n ≤ 100) : dg (pw x n) 0 = x ^ n / 65536 ^ n := by
  rw [dg_pw hn (Nat.zero_le _), Nat.sub_zero, Nat.mod_eq_of_lt]
  have h1 := Nat.pow_le_pow_left hx n
  have h2 : x ^ n / 65536 ^ n ≤ 1 := Nat.div_le_of_le_mul (by rw [Nat.mul_one]; exact h1)
  omega
theorem pow_small {x n : Nat} (hx : x ≤ 65536) : x ^ n < 65536 ^ (n + 1) := Nat.lt_of_le_of_lt (Nat.pow_le_pow_left hx n) (Nat.pow_lt_pow_right (by omega) (by omega))
/-- Which of two straws is longer, by their powers. -/
theorem pw_len {x y u v : Nat} (hu : u ≤ 100) (hv : v ≤ 100) : (pw y u < pw x v ↔ len y v u < len x u v) ∧ (pw y u = pw x v ↔ len y v u = len x u v) := by
  unfold pw len
  have hc : 0 < 65536 ^ (100 - u) * 65536 ^ (100 - v) := Nat.mul_pos (Nat.pow_pos (by omega)) (Nat.pow_pos (by omega))
  have e1 : y ^ u * 65536 ^ (100 - u) * 65536 ^ 100 = y ^ u * 65536 ^ v * (65536 ^ (100 - u) * 65536 ^ (100 - v)) := by
    rw [show (65536 : Nat) ^ 100 = 65536 ^ v * 65536 ^ (100 - v) by rw [← Nat.pow_add]; congr 1; omega]; ac_rfl
  have e2 : x ^ v * 65536 ^ (100 - v) * 65536 ^ 100 = x ^ v * 65536 ^ u * (65536 ^ (100 - u) * 65536 ^ (100 - v)) := by
    rw [show (65536 : Nat) ^ 100 = 65536 ^ u * 65536 ^ (100 - u) by rw [← Nat.pow_add]; congr 1; omega]; ac_rfl
  have hd : 0 < 65536 ^ 100 := Nat.pow_pos (by omega)
  constructor
  · rw [← Nat.mul_lt_mul_right hd, e1, e2, Nat.mul_lt_mul_right hc]
  · rw [← Nat.mul_left_inj (show (65536 ^ 100 : Nat) ≠ 0 by omega), e1, e2, Nat.mul_left_inj (by omega)]
end Go.Proofs.Ytcbecpgllebepaa.Straw

namespace Go.Proofs.Ytcbecpgllebepaa.Straw
set_option linter.unusedVariables false
set_option linter.unusedSimpArgs false
open Go.RowKit Mem

theorem nan_c (a : Nat) (W : World) : Calls Try.prog 100 #[.int .u64 a] W fun e w' => e = .returned (.bool false) ∧ W = w' := by
  go_enter Try.func100, Try.ntmps100
  go_wp2
  go_ret
  exact ⟨by simp, rfl⟩
def cmpN (a b : Nat) : Int := if a < b then -1 else if b < a then 1 else 0
theorem cmpN_lt {a b : Nat} (h : a < b) : cmpN a b = -1 := if_pos h
theorem cmpN_gt {a b : Nat} (h : b < a) : cmpN a b = 1 := by
  unfold cmpN
  rw [if_neg (by omega), if_pos (by omega)]
theorem cmpN_eq {a b : Nat} (h : a = b) : cmpN a b = 0 := by
  unfold cmpN
  rw [if_neg (by omega), if_neg (by omega)]
theorem cmpN_c (a b : Nat) (W : World) : Calls Try.prog 86 #[.int .u64 a, .int .u64 b] W fun e w' => e = .returned (.int .i64 (cmpN a b)) ∧ W = w' := by
  rcases Nat.lt_trichotomy a b with h | h | h
  · have E := Lib.hid (cmpN_lt h)
    go_enter Try.func86, Try.ntmps86
    go_wp2_with (go_at_call 100; refine (nan_c _ _).mono ?_; rintro e w' ⟨rfl, rfl⟩)
    go_ret
    exact ⟨by rw [E.out]; rfl, rfl⟩
  · have E := Lib.hid (cmpN_eq h)
    have h1 : ¬ a < b := by omega
    have h2 : ¬ b < a := by omega
    clear h
    go_enter Try.func86, Try.ntmps86
    go_wp2_with (go_at_call 100; refine (nan_c _ _).mono ?_; rintro e w' ⟨rfl, rfl⟩)
    go_ret
    exact ⟨by rw [E.out]; rfl, rfl⟩
  · have E := Lib.hid (cmpN_gt h)
    have h1 : ¬ a < b := by omega
    go_enter Try.func86, Try.ntmps86
    go_wp2_with (go_at_call 100; refine (nan_c _ _).mono ?_; rintro e w' ⟨rfl, rfl⟩)
    go_ret
    exact ⟨by rw [E.out]; rfl, rfl⟩

def orI (a b : Int) : Int := if a = 0 then b else a
set_option maxHeartbeats 1000000 in
theorem or_c (a b : Int) (g : Nat) (W : World) (h0 : W.cell? ⟨g, 0, none⟩ = some (.int .i64 a)) (h1 : W.cell? ⟨g, 1, none⟩ = some (.int .i64 b)) :
    Calls Try.prog 61 #[.slice (some ⟨g, 0, none⟩) 2 2] W fun e w' => e = .returned (.int .i64 (orI a b)) ∧ W = w' := by
  by_cases ha : a = 0
  · subst ha
    by_cases hb : b = 0
    · subst hb
      go_enter Try.func61, Try.ntmps61
      go_wp2
      go_loop [5, 8] (fun _ i => ∃ k : Nat, k ≤ 2 ∧ i = .int .i64 k) (fun _ i => 2 - (intOf i).toNat)
      case atStart => exact ⟨0, by omega, rfl⟩
      case round =>
        obtain ⟨k, hk, rfl⟩ := hrel
        rcases (by omega : k = 0 ∨ k = 1 ∨ k = 2) with rfl | rfl | rfl
        · go_wp2
          go_round
          case rel => exact ⟨1, by omega, rfl⟩
          case measure => simp [intOf]
        · go_wp2
          go_round
          case rel => exact ⟨2, by omega, rfl⟩
          case measure => simp [intOf]
        · go_wp2
          go_ret
          exact ⟨rfl, rfl⟩
    · have n1 : (b != 0) = true := by simpa using hb
      have n2 : (b == 0) = false := by simpa using hb
      have E := Lib.hid (show orI 0 b = b from if_pos rfl)
      clear hb
      go_enter Try.func61, Try.ntmps61
      go_wp2
      go_loop [5, 8] (fun _ i => ∃ k : Nat, k ≤ 1 ∧ i = .int .i64 k) (fun _ i => 2 - (intOf i).toNat)
      case atStart => exact ⟨0, by omega, rfl⟩
      case round =>
        obtain ⟨k, hk, rfl⟩ := hrel
        rcases (by omega : k = 0 ∨ k = 1) with rfl | rfl
        · go_wp2
          go_round
          case rel => exact ⟨1, by omega, rfl⟩
          case measure => simp [intOf]
        · go_wp2
          go_ret
          exact ⟨by rw [E.out]; rfl, rfl⟩
  · have n1 : (a != 0) = true := by simpa using ha
    have n2 : (a == 0) = false := by simpa using ha
    have E := Lib.hid (show orI a b = a from if_neg ha)
    clear ha
    go_enter Try.func61, Try.ntmps61
    go_wp2
    go_loop [5, 8] (fun _ i => i = .int .i64 0) (fun _ i => 2 - (intOf i).toNat)
    case atStart => rfl
    case round =>
      subst hrel
      go_wp2
      go_ret
      exact ⟨by rw [E.out]; rfl, rfl⟩

/-- The digits of X stand from block g on. -/
def Digits (W : World) (g X : Nat) : Prop := ∀ i, i ≤ 100 → W.cell? ⟨g, i, none⟩ = some (.int .u64 (dg X i : Nat))
set_option maxRecDepth 100000 in
set_option maxHeartbeats 2000000 in
theorem compare_c (g h X Y : Nat) (W : World) (hX : X < 65536 ^ 101) (hY : Y < 65536 ^ 101) (hg : Digits W g X) (hh : Digits W h Y) :
    Calls Try.prog 62 #[.slice (some ⟨g, 0, none⟩) 101 101, .slice (some ⟨h, 0, none⟩) 101 101] W fun e w' => e = .returned (.int .i64 (cmpN X Y)) ∧ W = w' := by
  have AZ := Lib.hid (alike_zero hX hY)
  have HG := Lib.hid hg
  have HH := Lib.hid hh
  clear hX hY hg hh
  go_enter Try.func62, Try.ntmps62
  go_wp2
  go_loop [11] (fun i => ∃ k : Nat, k ≤ 101 ∧ i = .int .i64 k ∧ Alike X Y k) (fun i => 101 - (intOf i).toNat)
  case atStart => exact ⟨0, by omega, rfl, AZ.out⟩
  case round =>
    obtain ⟨k, hk, rfl, hA⟩ := hrel
    have HA := Lib.hid hA
    clear hA AZ
    by_cases hlt : k < 101
    · have c1 := HG.out k (by omega)
      have c2 := HH.out k (by omega)
      have i1 : (k : Int) < 101 := by omega
      have i2 : ¬ (101 : Int) ≤ (k : Int) := by omega
      rcases Nat.lt_trichotomy (dg X k) (dg Y k) with hd | hd | hd
      · have E := Lib.hid (cmpN_lt (alike_lt (by omega) HA.out hd))
        have E2 := Lib.hid (cmpN_lt hd)
        generalize dg X k = d1 at *
        generalize dg Y k = d2 at *
        clear hd
        go_wp2_with (go_at_call 86; refine (cmpN_c _ _ _).mono ?_; rintro e w' ⟨rfl, rfl⟩; rw [E2.out])
        go_ret
        exact ⟨by rw [E.out]; rfl, rfl⟩
      · have E := Lib.hid (alike_next (by omega) HA.out hd)
        have E2 := Lib.hid (cmpN_eq hd)
        generalize dg X k = d1 at *
        generalize dg Y k = d2 at *
        clear hd
        go_wp2_with (go_at_call 86; refine (cmpN_c _ _ _).mono ?_; rintro e w' ⟨rfl, rfl⟩; rw [E2.out])
        go_round
        case rel => exact ⟨k + 1, by omega, by go_num, E.out⟩
        case measure => simp [intOf]; omega
      · have E := Lib.hid (cmpN_gt (alike_lt (by omega) (Eq.symm HA.out) hd))
        have E2 := Lib.hid (cmpN_gt hd)
        generalize dg X k = d1 at *
        generalize dg Y k = d2 at *
        clear hd
        go_wp2_with (go_at_call 86; refine (cmpN_c _ _ _).mono ?_; rintro e w' ⟨rfl, rfl⟩; rw [E2.out])
        go_ret
        exact ⟨by rw [E.out]; rfl, rfl⟩
    · obtain rfl : k = 101 := by omega
      have E := Lib.hid (cmpN_eq (alike_end HA.out))
      go_wp2
      go_ret
      exact ⟨by rw [E.out]; rfl, rfl⟩
end Go.Proofs.Ytcbecpgllebepaa.Straw

namespace Go.Proofs.Ytcbecpgllebepaa.Straw
set_option linter.unusedVariables false
set_option linter.unusedSimpArgs false
open Go.RowKit Mem

theorem known_setRow {W : World} {g : Nat} {t : TypeId} {old cs : Array Value} (h : Known W g t old) : Known (W.setRow g cs) g t cs := setRow_heap W g old cs t (0, 0) h
theorem known_offRow {W : World} {g k : Nat} {t : TypeId} {old cs : Array Value} (h : Known W g t old) (hk : g ≠ k) : Known (W.setRow k cs) g t old := (setRow_other W k g cs hk).trans h
theorem below_setRow {B : Nat} {W V : World} (h : Below B W V) {g : Nat} (hg : B ≤ g) (cs : Array Value) : Below B W (V.setRow g cs) :=
  ⟨h.os, h.tape, h.output, by simpa using h.size, fun k hk => (setRow_other V g k cs (by omega)).trans (h.block k hk)⟩
/-- The cells of a fraction. -/
def cells (f : Nat → Nat) : Array Value := (Array.range 101).map fun i => .int .u64 (f i : Nat)
theorem cells_size (f : Nat → Nat) : (cells f).size = 101 := by simp [cells]
theorem cells_at (f : Nat → Nat) {i : Nat} (h : i ≤ 100) : (cells f)[i]? = some (.int .u64 (f i : Nat)) := by
  unfold cells
  rw [Array.getElem?_map, Array.getElem?_range]
  simp [show i < 101 by omega]
theorem cells_one (f : Nat → Nat) : (cells f).all (·.oneCell') = true := Array.all_eq_true_iff_forall_mem.2 fun v hv => by
  unfold cells at hv
  obtain ⟨i, _, rfl⟩ := Array.mem_map.1 hv
  rfl
theorem cells_ext {f g : Nat → Nat} (h : ∀ i, i ≤ 100 → f i = g i) : cells f = cells g := by
  refine Array.ext (by rw [cells_size, cells_size]) fun i h1 h2 => ?_
  rw [cells_size] at h1
  have e1 := cells_at f (show i ≤ 100 by omega)
  have e2 := cells_at g (show i ≤ 100 by omega)
  rw [h i (by omega), ← e2] at e1
  rw [Array.getElem?_eq_getElem (by rw [cells_size]; omega), Array.getElem?_eq_getElem (by rw [cells_size]; omega)] at e1
  exact Option.some.inj e1
theorem cells_set (f : Nat → Nat) (k v : Nat) : (cells f).setIfInBounds k (.int .u64 (v : Nat)) = cells (fun j => if j = k then v else f j) := by
  refine Array.ext (by simp [cells_size]) fun i h1 h2 => ?_
  rw [Array.size_setIfInBounds, cells_size] at h1
  have e2 := cells_at (fun j => if j = k then v else f j) (show i ≤ 100 by omega)
  rw [Array.getElem?_eq_getElem h2] at e2
  rw [Array.getElem_setIfInBounds (by rw [cells_size]; omega), Option.some.inj e2]
  by_cases hk : k = i
  · subst hk; simp
  · rw [if_neg hk, if_neg (fun h => hk h.symm)]
    have e1 := cells_at f (show i ≤ 100 by omega)
    rw [Array.getElem?_eq_getElem (by rw [cells_size]; omega)] at e1
    exact Option.some.inj e1
/-- Block p holds the digits f. -/
def Frac (W : World) (p : Nat) (f : Nat → Nat) : Prop := Known W p 92 (cells f)
section
variable {W V : World} {p : Nat} {f g : Nat → Nat}
theorem Frac.at_ (h : Frac W p f) {i : Nat} (hi : i ≤ 100) : W.cell? ⟨p, i, none⟩ = some (.int .u64 (f i : Nat)) := (Known.cell h i).trans (cells_at f hi)
theorem Frac.free (h : Frac W p f) (i : Nat) : W.frozen? ⟨p, i, none⟩ = false := Known.free h i
theorem Frac.lt (h : Frac W p f) : p < W.heap.size := Known.lt h
theorem Frac.congr (h : Frac W p f) (e : ∀ i, i ≤ 100 → f i = g i) : Frac W p g := by unfold Frac at *; rwa [← cells_ext e]
theorem Frac.put (h : Frac W p f) (k v : Nat) (e : ∀ i, i ≤ 100 → (if i = k then v else f i) = g i) : Frac (W.setCell ⟨p, k, none⟩ (.int .u64 (v : Nat))) p g := by
  have h1 := Known.put h k (.int .u64 (v : Nat))
  rw [cells_set] at h1
  exact Frac.congr h1 e
theorem Frac.below {B : Nat} (h : Frac W p f) (hb : Below B W V) (hp : p < B) : Frac V p f := Known.below h hb hp
theorem Frac.later (h : Frac W p f) (hb : Below W.heap.size W V) : Frac V p f := Known.later h hb
theorem Frac.drew (h : Frac W p f) : Frac W.drew p f := h
theorem Frac.alloc (h : Frac W p f) (o : Obj) : Frac (W.alloc o) p f := Known.alloc h o
end
/-- The digits in the midst of a multiplication: from the place m on they are new but for the one at m. -/
def mid (x n m : Nat) : Nat → Nat := fun j => if j ≤ m then dg (pw x n) j else dg (pw x (n + 1)) j
def cr (x n m : Nat) : Nat := if m = 0 then x ^ (n + 1) / 65536 ^ (n + 1) else carry x n (m - 1)
theorem mid_start {x n i : Nat} (hn : n ≤ 99) (hi : i ≤ 100) : dg (pw x n) i = mid x n (n + 1) i := by
  unfold mid
  by_cases h : i ≤ n + 1
  · rw [if_pos h]
  · rw [if_neg h, dg_pw_far (by omega) (by omega) hi, dg_pw_far (by omega) (by omega) hi]
theorem mid_next {x n m v : Nat} (hv : v = dg (pw x (n + 1)) (m + 1)) (i : Nat) : (if i = m + 1 then v else mid x n (m + 1) i) = mid x n m i := by
  unfold mid
  by_cases h : i = m + 1
  · subst h; rw [if_pos rfl, if_neg (by omega), hv]
  · rw [if_neg h]
    by_cases h2 : i ≤ m
    · rw [if_pos h2, if_pos (by omega)]
    · rw [if_neg h2, if_neg (by omega)]
theorem mid_end {x n v : Nat} (hx : x ≤ 65536) (hn : n ≤ 99) (hv : v = cr x n 0) (i : Nat) : (if i = 0 then v else mid x n 0 i) = dg (pw x (n + 1)) i := by
  unfold mid
  by_cases h : i = 0
  · subst h; rw [if_pos rfl, hv, dg_pw_zero hx (by omega)]; rfl
  · rw [if_neg h, if_neg (by omega)]
theorem cr_le {x n m : Nat} (hx : x ≤ 65536) : cr x n m ≤ 65536 := by
  unfold cr
  split
  · have h1 := Nat.pow_le_pow_left hx (n + 1)
    have h2 : x ^ (n + 1) / 65536 ^ (n + 1) ≤ 1 := Nat.div_le_of_le_mul (by rw [Nat.mul_one]; exact h1)
    omega
  · exact carry_lt hx
/-- What one digit leaves, and what it carries. -/
theorem cr_step {x n m : Nat} (hx : x ≤ 65536) (hn : n ≤ 99) (hm : m ≤ n) : (cr x n (m + 1) + mid x n (m + 1) m * x) % 65536 = dg (pw x (n + 1)) (m + 1) ∧ (cr x n (m + 1) + mid x n (m + 1) m * x) / 65536 = cr x n m := by
  have e1 : cr x n (m + 1) = carry x n m := by unfold cr; rw [if_neg (by omega), Nat.add_sub_cancel]
  have e2 : mid x n (m + 1) m = dg (pw x n) m := by unfold mid; rw [if_pos (by omega)]
  rw [e1, e2]
  obtain ⟨h1, h2, h3⟩ := carry_step (x := x) hn hm
  refine ⟨h1, ?_⟩
  by_cases h0 : m = 0
  · rw [h3 h0 (pow_small hx)]; unfold cr; rw [if_pos h0]
  · rw [h2 h0]; unfold cr; rw [if_neg h0]
theorem mid_lt (x n m i : Nat) : mid x n m i < 65536 := by unfold mid; split <;> exact dg_lt _ _
set_option maxRecDepth 100000 in
set_option maxHeartbeats 4000000 in
theorem times_c (p x n : Nat) (W : World) (hx : x ≤ 65536) (hn : n ≤ 99) (hF : Frac W p (dg (pw x n))) :
    Calls Try.prog 85 #[.pointer (some ⟨p, 0, none⟩), .int .u64 x, .int .i64 n] W fun e w' =>
      e = .returned (.tuple #[]) ∧ Frac w' p (dg (pw x (n + 1))) ∧ Below p W w' ∧ W.drawn ≤ w'.drawn := by
  have F0 := Lib.hid (hF.congr (fun i hi => mid_start hn hi))
  have CZ := Lib.hid (show cr x n (n + 1) = 0 by unfold cr; rw [if_neg (by omega), Nat.add_sub_cancel]; exact carry_start x n)
  clear hF
  go_enter Try.func85, Try.ntmps85
  go_wp2
  go_loopw [6, 7] (fun c i wr => ∃ m : Nat, m ≤ n + 1 ∧ i = .int .i64 ((m : Int) - 1) ∧ c = .int .u64 (cr x n m : Nat) ∧ Frac wr p (mid x n m) ∧ Below p W wr ∧ W.drawn ≤ wr.drawn) (fun _ i _ => (intOf i + 1).toNat)
  case atStart => exact ⟨n + 1, by omega, by congr 1; omega, by rw [CZ.out]; rfl, F0.out, Below.refl _ _, Nat.le_refl _⟩
  case round =>
    obtain ⟨m, hm, hi, rfl, hF, hB, hD⟩ := hrel
    have HF := Lib.hid hF
    have HB := Lib.hid hB
    have HD := Lib.hid hD
    clear F0 CZ hB hD
    rcases m with _ | m
    · have hi2 : _ = Value.int .i64 (-1) := hi
      subst hi2
      have c0 := hF.at_ (i := 0) (by omega)
      have f0 := hF.free 0
      have E := Lib.hid (fun v (hv : v = cr x n 0) => hF.put 0 v (fun i _ => mid_end hx hn hv i))
      generalize hc : cr x n 0 = c at *
      have HC := Lib.hid hc
      clear hi hc hF
      go_wp2
      go_end0
      exact ⟨rfl, E.out _ rfl, HB.out.setCell (Nat.le_refl _) _, HD.out⟩
    · have hi2 : _ = Value.int .i64 (m : Int) := hi.trans (by congr 1; omega)
      subst hi2
      obtain ⟨s1, s2⟩ := cr_step (x := x) (n := n) (m := m) hx hn (by omega)
      have c0 := hF.at_ (i := m) (by omega)
      have c1 := hF.at_ (i := m + 1) (by omega)
      have f1 := hF.free (m + 1)
      have cl := cr_le (x := x) (n := n) (m := m + 1) hx
      have dl := mid_lt x n (m + 1) m
      have E := Lib.hid (fun v hv => hF.put (m + 1) v (fun i _ => mid_next (x := x) (n := n) (m := m) (v := v) hv i))
      generalize cr x n (m + 1) = c at *
      generalize mid x n (m + 1) m = d at *
      generalize mid x n (m + 1) (m + 1) = d' at *
      have pl : d * x ≤ 65535 * 65536 := Nat.mul_le_mul (by omega) hx
      have mw : IntKind.u64.wrap ((d : Int) * (x : Int)) = ((d * x : Nat) : Int) := by rw [← Int.natCast_mul]; exact IntWalk.u64_in _ (by omega)
      have mw2 : (d : Int) * (x : Int) = ((d * x : Nat) : Int) := (Int.natCast_mul d x).symm
      generalize d * x = y at *
      have aw : IntKind.u64.wrap ((c : Int) + (y : Int)) = ((c + y : Nat) : Int) := by rw [← Int.natCast_add]; exact IntWalk.u64_in _ (by omega)
      have aw2 : (c : Int) + (y : Int) = ((c + y : Nat) : Int) := by omega
      have sl : c + y ≤ 4295032832 := by omega
      generalize c + y = s at *
      have tm : (s : Int).tmod 65536 = ((s % 65536 : Nat) : Int) := by rw [Int.tmod_eq_emod_of_nonneg (by omega)]; omega
      have tm2 : (s : Int) % 65536 = ((s % 65536 : Nat) : Int) := by omega
      have td : (s : Int) / 65536 = ((s / 65536 : Nat) : Int) := by omega
      have td2 : (s : Int).tdiv 65536 = ((s / 65536 : Nat) : Int) := by rw [Int.tdiv_eq_ediv_of_nonneg (by omega)]; omega
      have rl : s % 65536 < 65536 := by omega
      have ql : s / 65536 ≤ 65536 := by omega
      have S1 := Lib.hid s1
      have S2 := Lib.hid s2
      generalize s % 65536 = r at *
      generalize s / 65536 = q at *
      have j1 : (m : Int) < 101 := by omega
      have j2 : (m : Int) + 1 < 101 := by omega
      have j3 : (0 : Int) ≤ (m : Int) := by omega
      clear s1 s2 hi hF cl dl pl
      go_wp2
      go_roundw
      case rel => exact ⟨m, by omega, rfl, by rw [← S2.out], E.out r S1.out, HB.out.setCell (Nat.le_refl _) _, HD.out⟩
      case measure => simp [intOf]
theorem sizeF : (Try.prog.info? 92).map (·.size) = some 101 := by kernel_rfl
theorem cells_first : cells (fun i => if i = 0 then 1 else 0) = cells (dg (pw 1 0)) := cells_ext fun i hi => by
  by_cases h : i = 0
  · subst h; rw [if_pos rfl, dg_pw (by omega) (by omega)]
  · rw [if_neg h, dg_pw_far (by omega) (by omega) hi]
theorem pw_zero (x y : Nat) : pw x 0 = pw y 0 := by unfold pw; simp
set_option maxRecDepth 100000 in
set_option maxHeartbeats 4000000 in
theorem pow_c (x n : Nat) (W : World) (hx : x ≤ 65536) (hn : n ≤ 100) :
    Calls Try.prog 59 #[.int .i64 x, .int .i64 n] W fun e w' => e = .returned (.agg (cells (dg (pw x n)))) ∧ Below W.heap.size W w' ∧ W.drawn ≤ w'.drawn := by
  have C1 := Lib.hid (show (cells (fun _ => 0)).setIfInBounds 0 (.int .u64 1) = cells (dg (pw x 0)) from (cells_set (fun _ => 0) 0 1).trans (cells_first.trans (cells_ext (fun i _ => by rw [pw_zero 1 x]))))
  have hz : ∀ w : World, (zeroValue 92).run Try.prog w = .ok (.agg (cells (fun _ => 0))) w := fun _ => by kernel_rfl
  have ZS := Lib.hid (cells_size (fun _ => 0))
  have hne : ¬ cells (fun _ => 0) = #[] := fun h => by have := congrArg Array.size h; rw [cells_size] at this; cases this
  go_enter Try.func59, Try.ntmps59
  go_wp2_with (refine wpList_store_row rfl 92 _ _ rfl (W.heap.size + 1) ((cells (fun _ => 0)).setIfInBounds 0 (.int .u64 1)) rfl rfl 92 (cells (fun _ => 0)) (heap_alloc2_new _ _ _) (by rw [Array.size_setIfInBounds, ZS.out]; exact sizeF) (by rw [Array.size_setIfInBounds]) (by rw [C1.out]; exact cells_one _) ?_)
  go_loopw [9] (fun i wr => ∃ k : Nat, k ≤ n ∧ i = .int .i64 k ∧ Known wr W.heap.size 92 (cells (fun _ => 0)) ∧ Frac wr (W.heap.size + 1) (dg (pw x k)) ∧ Below W.heap.size W wr ∧ W.drawn ≤ wr.drawn) (fun i _ => n - (intOf i).toNat)
  case atStart =>
    refine ⟨0, by omega, rfl, known_offRow ((Known.made W _ _).alloc _) (by simp), ?_, below_setRow (((Below.refl _ _).alloc (Nat.le_refl _) _).alloc (by simp) _) (by omega) _, Nat.le_refl _⟩
    unfold Frac
    rw [← C1.out]
    exact known_setRow (heap_alloc2_new _ _ _)
  case round =>
    obtain ⟨k, hk, rfl, hK, hF, hB, hD⟩ := hrel
    have HK := Lib.hid hK
    have HF := Lib.hid hF
    have HB := Lib.hid hB
    have HD := Lib.hid hD
    clear hK hF hB hD hz
    by_cases hlt : k < n
    · go_wp2_with fail
      refine (times_c (W.heap.size + 1) x k _ hx (by omega) HF.out).mono ?_
      rintro e w1 ⟨rfl, hF, hb, hd⟩
      have F1 := Lib.hid hF
      have K1 := Lib.hid (HK.out.below hb (by omega))
      have B1 := Lib.hid (HB.out.trans (hb.mono (by omega)))
      have D1 := Lib.hid (Nat.le_trans HD.out hd)
      clear hF hb hd
      go_wp2
      go_roundw
      case rel => exact ⟨k + 1, by omega, by go_num, K1.out, F1.out, B1.out, D1.out⟩
      case measure => simp [intOf]; omega
    · obtain rfl : k = n := by omega
      go_wp2_with (first
        | (refine wpList_load_row rfl 92 _ rfl (W.heap.size + 1) rfl 92 _ (0, 0) _ HF.out Try.underlying92 rfl (by rw [cells_size]; exact sizeF) ?_)
        | (refine wpList_store_row rfl 92 _ _ rfl W.heap.size _ rfl rfl 92 _ HK.out (by rw [cells_size]; exact sizeF) (by rw [cells_size, cells_size]) (cells_one _) ?_))
      refine bodyPost_ret (v := .agg (cells (dg (pw x k)))) ?_ rfl ⟨rfl, below_setRow HB.out (Nat.le_refl _) _, HD.out⟩
      exact results_cell_row rfl _ _ W.heap.size 92 _ (0, 0) _ rfl (known_setRow HK.out) Try.underlying92 rfl (by rw [cells_size]; exact sizeF)
end Go.Proofs.Ytcbecpgllebepaa.Straw
