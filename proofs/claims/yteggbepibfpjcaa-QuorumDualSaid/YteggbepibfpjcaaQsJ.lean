/-
  slices.Sort and slices.Compact at []uint16.
-/
import Derived.Test.YteggbepibfpjcaaQsI
import Derived.Test.YteggbepibfpjcaaQpPure
import Derived.Test.YteggbepibfpjcaaShelf
import Derived.Deep.Upon
import Derived.Lib.SliceRun
namespace Go.Proofs.Yteggbepibfpjcaa.Qs
set_option linter.unusedVariables false
set_option linter.unusedSimpArgs false
open Go.RowKit Mem Qr Go.Sort

theorem bitLenAux_le : ∀ f x : Nat, Lib.bitLenAux f x ≤ f
  | 0, _ => Nat.le_refl _
  | f + 1, x => by
    have := bitLenAux_le f (x / 2)
    unfold Lib.bitLenAux
    split <;> omega
set_option maxRecDepth 100000 in
theorem sort_c (g o n ca : Nat) (d : Array Nat) (W : World) (hH : Holds w16 W g o d) (hn : d.size = n) (hbig : n ≤ 70368744177664) :
    Calls Try.prog 31 #[.slice (some ⟨g, o, none⟩) n ca] W (Srt g o 0 n d W) := by
  obtain ⟨bl, hbl⟩ : ∃ bl, bl = Lib.bitLen (n : Int).toNat := ⟨_, rfl⟩
  have hb : bl ≤ 64 := by rw [hbl]; exact bitLenAux_le 64 _
  have w1 : IntKind.u64.wrap (n : Int) = (n : Int) := wraps_u64 _ (by omega) (by omega)
  have BL := Lib.hid (fun V => show Calls Try.prog 43 #[.int .u64 (n : Int)] V (fun e w' => e = .returned (.int .i64 (bl : Nat)) ∧ w' = V) from hbl ▸ Try.bits_Len (n : Int) V (by omega) (by omega))
  have PQ := Lib.hid (fun V hV => pdq_c g o n ca hbig (n + 1) 0 n bl d V (by omega) hV hn (Nat.zero_le _) (Nat.le_refl _) (by omega) (.inl rfl))
  have HH := Lib.hid hH
  clear hbl hb hH hn
  go_enter Try.func31, Try.ntmps31
  go_wp2_with fail
  refine (BL.out _).mono ?_
  rintro e w' ⟨rfl, rfl⟩
  go_wp2_with fail
  refine (PQ.out _ HH.out).mono ?_
  rintro e w' ⟨d', rfl, h1, h2, h3⟩
  have R := Lib.hid (show Srt g o 0 n d _ (.returned (.tuple #[])) w' from ⟨d', rfl, h1, h2, h3⟩)
  clear h1 h2 h3
  go_wp2
  first | go_end0 | refine bodyPost_ret (results_none rfl _ _ _) rfl ?_
  exact R.out
/-- An empty row stays as it is. -/
theorem ins_nil (A : Option Addr) (ca : Nat) (W : World) : Calls Try.prog 47 #[.slice A 0 ca, .int .i64 0, .int .i64 0] W (fun e W' => e = .returned (.tuple #[]) ∧ W' = W) := by
  go_enter Try.func47, Try.ntmps47
  go_wp2
  go_loopw [6] (fun i_ V => i_ = .int .i64 1 ∧ V = W) (fun i_ _ => 0)
  case atStart => exact ⟨by first | rfl | go_num, rfl⟩
  case round =>
    obtain ⟨rfl, rfl⟩ := hrel
    go_wp2
    first | go_end0 | refine bodyPost_ret (results_none rfl _ _ _) rfl ?_
    exact ⟨rfl, rfl⟩
theorem pdq_nil (A : Option Addr) (ca : Nat) (W : World) : Calls Try.prog 42 #[.slice A 0 ca, .int .i64 0, .int .i64 0, .int .i64 0] W (fun e W' => e = .returned (.tuple #[]) ∧ W' = W) := by
  go_enter Try.func42, Try.ntmps42
  go_wp2
  go_loopw [1, 2] (fun a_ b_ V => a_ = .int .i64 0 ∧ b_ = .int .i64 0 ∧ V = W) (fun a_ b_ _ => 0)
  case atStart => exact ⟨rfl, rfl, rfl⟩
  case round =>
    obtain ⟨rfl, rfl, rfl⟩ := hrel
    go_wp2_with fail
    refine (ins_nil A ca _).mono ?_
    rintro e w' ⟨rfl, rfl⟩
    go_wp2
    first | go_end0 | refine bodyPost_ret (results_none rfl _ _ _) rfl ?_
    exact ⟨rfl, rfl⟩
theorem sort_nil (A : Option Addr) (ca : Nat) (W : World) : Calls Try.prog 31 #[.slice A 0 ca] W (fun e W' => e = .returned (.tuple #[]) ∧ W' = W) := by
  have BL := Lib.hid (fun V => show Calls Try.prog 43 #[.int .u64 0] V (fun e w' => e = .returned (.int .i64 0) ∧ w' = V) from Try.bits_Len 0 V (by omega) (by omega))
  go_enter Try.func31, Try.ntmps31
  go_wp2_with fail
  refine (BL.out _).mono ?_
  rintro e w' ⟨rfl, rfl⟩
  go_wp2_with fail
  refine (pdq_nil A ca _).mono ?_
  rintro e w' ⟨rfl, rfl⟩
  go_wp2
  first | go_end0 | refine bodyPost_ret (results_none rfl _ _ _) rfl ?_
  exact ⟨rfl, rfl⟩

/-! ### Compact -/
theorem reads_arr {V : World} {g o k : Nat} {d : Array Nat} {l : List Nat} (h : ∀ i, i < l.length → V.cell? ⟨g, o + i, none⟩ = some (w16 (l[i]!))) : Reads V (some ⟨g, o, none⟩) (l.map w16) := fun i v hv => by
  rw [List.getElem?_map] at hv
  have hi : i < l.length := by
    rcases Nat.lt_or_ge i l.length with hi | hi
    · exact hi
    · rw [List.getElem?_eq_none hi] at hv; cases hv
  have hc := h i hi
  refine ⟨g, o, rfl, World.block_lt_of_cell? _ _ hc, hc.trans ?_⟩
  rw [← hv, List.getElem?_eq_getElem hi, List.getElem!_eq_getElem?_getD, List.getElem?_eq_getElem hi]
  rfl
theorem grown_setCells (W : World) (g o : Nat) (vs : List Value) : W.grownBy (W.setCells g o vs) (some g) := by
  have h := World.keptBut_setCells g (may := fun _ => True) vs o W (fun _ _ => trivial)
  refine ⟨World.os_setCells W g o vs, ?_, World.output_setCells W g o vs, ?_, fun b hb hne => World.heap_setCells_other W g o vs hb (fun e => hne (by rw [e]))⟩
  · have : ∀ (vs : List Value) (o : Nat) (W : World), (W.setCells g o vs).tape = W.tape := by
      intro vs
      induction vs with
      | nil => intro o W; rfl
      | cons v vs ih => intro o W; exact ih (o + 1) _
    exact this vs o W
  · have : ∀ (vs : List Value) (o : Nat) (W : World), W.heap.size ≤ (W.setCells g o vs).heap.size := by
      intro vs
      induction vs with
      | nil => intro o W; exact Nat.le_refl _
      | cons v vs ih => intro o W; refine Nat.le_trans ?_ (ih (o + 1) _); simp [World.setCell]
    exact this vs o W
/-- Behind j places of the tail at k, the front of kk places is what is kept of the first k + j. -/
structure Fold (d e : Array Nat) (k j kk : Nat) : Prop where
  low : k ≤ kk
  up : kk + 1 ≤ k + j
  len : (comp d (k + j)).length = kk
  front : ∀ p, p < kk → e[p]! = (comp d (k + j))[p]!
  tail : ∀ p, k + j ≤ p + 1 → e[p]! = d[p]!
theorem Fold.start {d : Array Nat} {k : Nat} (h0 : 0 < k) (h : ∀ i, 1 ≤ i → i < k → d[i]! ≠ d[i - 1]!) (he : d[k]! = d[k - 1]!) : Fold d d k 1 k := by
  have e : comp d (k + 1) = (List.range k).map (fun i => d[i]!) := by rw [comp_drop h0 he, comp_all d k h]
  refine ⟨Nat.le_refl _, Nat.le_refl _, by rw [e]; simp, fun p hp => ?_, fun _ _ => rfl⟩
  rw [e, List.getElem!_eq_getElem?_getD, List.getElem?_map, List.getElem?_range hp]
  rfl
theorem Fold.same {d e : Array Nat} {k j kk : Nat} (h : Fold d e k j kk) (h0 : 0 < k + j) (he : d[k + j]! = d[k + j - 1]!) : Fold d e k (j + 1) kk := by
  have ee : comp d (k + (j + 1)) = comp d (k + j) := comp_drop h0 he
  exact ⟨h.low, by have := h.up; omega, by rw [ee]; exact h.len, fun p hp => by rw [ee]; exact h.front p hp, fun p hp => h.tail p (by omega)⟩
theorem Fold.more {d e : Array Nat} {k j kk : Nat} (h : Fold d e k j kk) (hs : kk < e.size) (he : d[k + j]! ≠ d[k + j - 1]!) : Fold d (e.setIfInBounds kk d[k + j]!) k (j + 1) (kk + 1) := by
  have ee : comp d (k + (j + 1)) = comp d (k + j) ++ [d[k + j]!] := comp_keep he
  refine ⟨by have := h.low; omega, by have := h.up; omega, by rw [ee, List.length_append, h.len]; rfl, fun p hp => ?_, fun p hp => ?_⟩
  · rw [ee, List.getElem!_eq_getElem?_getD]
    by_cases hpk : p = kk
    · subst hpk
      rw [getElem!_set_same e p _ hs, List.getElem?_append_right (by rw [h.len]; exact Nat.le_refl _), h.len]
      simp
    · rw [getElem!_set_other e kk p _ hpk, h.front p (by omega), List.getElem!_eq_getElem?_getD, List.getElem?_append_left (by rw [h.len]; omega)]
  · have := h.up
    rw [getElem!_set_other e kk p _ (by omega)]
    exact h.tail p (by omega)
end Go.Proofs.Yteggbepibfpjcaa.Qs
