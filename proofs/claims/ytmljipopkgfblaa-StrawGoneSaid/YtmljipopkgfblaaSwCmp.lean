/-
  cmp.Compare and cmp.Or of numbers, and slices.Compare of two rows of digits.
-/
import Derived.Test.YtmljipopkgfblaaSwFrac
import Derived.Test.YtmljipopkgfblaaRow
import Derived.Test.YtmljipopkgfblaaShelf
namespace Go.Proofs.Ytmljipopkgfblaa.Straw
set_option linter.unusedVariables false
set_option linter.unusedSimpArgs false
open Go.RowKit Mem

theorem nan_c (a : Nat) (W : World) : Calls Try.prog 76 #[.int .u64 a] W fun e w' => e = .returned (.bool false) ∧ W = w' := by
  go_enter Try.func76, Try.ntmps76
  go_wp2
  go_ret
  exact ⟨by simp, rfl⟩
def cmpN (a b : Nat) : Int := if a < b then -1 else if b < a then 1 else 0
theorem cmpN_lt {a b : Nat} (h : a < b) : cmpN a b = -1 := if_pos h
theorem cmpN_gt {a b : Nat} (h : b < a) : cmpN a b = 1 := by
  unfold cmpN
  rw [if_neg (by omega), if_pos (by omega)]
theorem cmpN_eq {a b : Nat} (h : a = b) : cmpN a b = 0 := by
  unfold cmpN
  rw [if_neg (by omega), if_neg (by omega)]
theorem cmpN_c (a b : Nat) (W : World) : Calls Try.prog 56 #[.int .u64 a, .int .u64 b] W fun e w' => e = .returned (.int .i64 (cmpN a b)) ∧ W = w' := by
  rcases Nat.lt_trichotomy a b with h | h | h
  · have E := Lib.hid (cmpN_lt h)
    go_enter Try.func56, Try.ntmps56
    go_wp2_with (go_at_call 76; refine (nan_c _ _).mono ?_; rintro e w' ⟨rfl, rfl⟩)
    go_ret
    exact ⟨by rw [E.out]; rfl, rfl⟩
  · have E := Lib.hid (cmpN_eq h)
    have h1 : ¬ a < b := by omega
    have h2 : ¬ b < a := by omega
    clear h
    go_enter Try.func56, Try.ntmps56
    go_wp2_with (go_at_call 76; refine (nan_c _ _).mono ?_; rintro e w' ⟨rfl, rfl⟩)
    go_ret
    exact ⟨by rw [E.out]; rfl, rfl⟩
  · have E := Lib.hid (cmpN_gt h)
    have h1 : ¬ a < b := by omega
    go_enter Try.func56, Try.ntmps56
    go_wp2_with (go_at_call 76; refine (nan_c _ _).mono ?_; rintro e w' ⟨rfl, rfl⟩)
    go_ret
    exact ⟨by rw [E.out]; rfl, rfl⟩

def orI (a b : Int) : Int := if a = 0 then b else a
set_option maxHeartbeats 1000000 in
theorem or_c (a b : Int) (g : Nat) (W : World) (h0 : W.cell? ⟨g, 0, none⟩ = some (.int .i64 a)) (h1 : W.cell? ⟨g, 1, none⟩ = some (.int .i64 b)) :
    Calls Try.prog 40 #[.slice (some ⟨g, 0, none⟩) 2 2] W fun e w' => e = .returned (.int .i64 (orI a b)) ∧ W = w' := by
  by_cases ha : a = 0
  · subst ha
    by_cases hb : b = 0
    · subst hb
      go_enter Try.func40, Try.ntmps40
      go_wp2
      go_loop [5, 8] (fun _ i => ∃ k : Nat, k ≤ 2 ∧ i = .int .i64 k) (fun _ i => 2 - (intOf i).toNat)
      case atStart => exact ⟨0, by omega, rfl⟩
      case round =>
        obtain ⟨k, hk, rfl⟩ := hrel
        rcases (by omega : k = 0 ∨ k = 1 ∨ k = 2) with rfl | rfl | rfl
        · go_wp2
          go_round
          case rel => exact ⟨1, by omega, rfl⟩
          case measure => simp [intOf]
        · go_wp2
          go_round
          case rel => exact ⟨2, by omega, rfl⟩
          case measure => simp [intOf]
        · go_wp2
          go_ret
          exact ⟨rfl, rfl⟩
    · have n1 : (b != 0) = true := by simpa using hb
      have n2 : (b == 0) = false := by simpa using hb
      have E := Lib.hid (show orI 0 b = b from if_pos rfl)
      clear hb
      go_enter Try.func40, Try.ntmps40
      go_wp2
      go_loop [5, 8] (fun _ i => ∃ k : Nat, k ≤ 1 ∧ i = .int .i64 k) (fun _ i => 2 - (intOf i).toNat)
      case atStart => exact ⟨0, by omega, rfl⟩
      case round =>
        obtain ⟨k, hk, rfl⟩ := hrel
        rcases (by omega : k = 0 ∨ k = 1) with rfl | rfl
        · go_wp2
          go_round
          case rel => exact ⟨1, by omega, rfl⟩
          case measure => simp [intOf]
        · go_wp2
          go_ret
          exact ⟨by rw [E.out]; rfl, rfl⟩
  · have n1 : (a != 0) = true := by simpa using ha
    have n2 : (a == 0) = false := by simpa using ha
    have E := Lib.hid (show orI a b = a from if_neg ha)
    clear ha
    go_enter Try.func40, Try.ntmps40
    go_wp2
    go_loop [5, 8] (fun _ i => i = .int .i64 0) (fun _ i => 2 - (intOf i).toNat)
    case atStart => rfl
    case round =>
      subst hrel
      go_wp2
      go_ret
      exact ⟨by rw [E.out]; rfl, rfl⟩

/-- The digits of X stand from block g on. -/
def Digits (W : World) (g X : Nat) : Prop := ∀ i, i ≤ 100 → W.cell? ⟨g, i, none⟩ = some (.int .u64 (dg X i : Nat))
set_option maxRecDepth 100000 in
set_option maxHeartbeats 2000000 in
theorem compare_c (g h X Y : Nat) (W : World) (hX : X < 65536 ^ 101) (hY : Y < 65536 ^ 101) (hg : Digits W g X) (hh : Digits W h Y) :
    Calls Try.prog 41 #[.slice (some ⟨g, 0, none⟩) 101 101, .slice (some ⟨h, 0, none⟩) 101 101] W fun e w' => e = .returned (.int .i64 (cmpN X Y)) ∧ W = w' := by
  have AZ := Lib.hid (alike_zero hX hY)
  have HG := Lib.hid hg
  have HH := Lib.hid hh
  clear hX hY hg hh
  go_enter Try.func41, Try.ntmps41
  go_wp2
  go_loop [11] (fun i => ∃ k : Nat, k ≤ 101 ∧ i = .int .i64 k ∧ Alike X Y k) (fun i => 101 - (intOf i).toNat)
  case atStart => exact ⟨0, by omega, rfl, AZ.out⟩
  case round =>
    obtain ⟨k, hk, rfl, hA⟩ := hrel
    have HA := Lib.hid hA
    clear hA AZ
    by_cases hlt : k < 101
    · have c1 := HG.out k (by omega)
      have c2 := HH.out k (by omega)
      have i1 : (k : Int) < 101 := by omega
      have i2 : ¬ (101 : Int) ≤ (k : Int) := by omega
      rcases Nat.lt_trichotomy (dg X k) (dg Y k) with hd | hd | hd
      · have E := Lib.hid (cmpN_lt (alike_lt (by omega) HA.out hd))
        have E2 := Lib.hid (cmpN_lt hd)
        generalize dg X k = d1 at *
        generalize dg Y k = d2 at *
        clear hd
        go_wp2_with (go_at_call 56; refine (cmpN_c _ _ _).mono ?_; rintro e w' ⟨rfl, rfl⟩; rw [E2.out])
        go_ret
        exact ⟨by rw [E.out]; rfl, rfl⟩
      · have E := Lib.hid (alike_next (by omega) HA.out hd)
        have E2 := Lib.hid (cmpN_eq hd)
        generalize dg X k = d1 at *
        generalize dg Y k = d2 at *
        clear hd
        go_wp2_with (go_at_call 56; refine (cmpN_c _ _ _).mono ?_; rintro e w' ⟨rfl, rfl⟩; rw [E2.out])
        go_round
        case rel => exact ⟨k + 1, by omega, by go_num, E.out⟩
        case measure => simp [intOf]; omega
      · have E := Lib.hid (cmpN_gt (alike_lt (by omega) (Eq.symm HA.out) hd))
        have E2 := Lib.hid (cmpN_gt hd)
        generalize dg X k = d1 at *
        generalize dg Y k = d2 at *
        clear hd
        go_wp2_with (go_at_call 56; refine (cmpN_c _ _ _).mono ?_; rintro e w' ⟨rfl, rfl⟩; rw [E2.out])
        go_ret
        exact ⟨by rw [E.out]; rfl, rfl⟩
    · obtain rfl : k = 101 := by omega
      have E := Lib.hid (cmpN_eq (alike_end HA.out))
      go_wp2
      go_ret
      exact ⟨by rw [E.out]; rfl, rfl⟩
end Go.Proofs.Ytmljipopkgfblaa.Straw
