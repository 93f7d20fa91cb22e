/-
  slices.IsSorted of numbers that rise.
-/
import Derived.Test.YthebilmeehnkpaaGInts
namespace Go.Proofs.Ythebilmeehnkpaa.Gt
set_option linter.unusedVariables false
set_option linter.unusedSimpArgs false
open Go.RowKit Mem

set_option maxRecDepth 100000 in
theorem nan_c (x : Int) (V : World) : Calls Try.prog 58 #[.int .i64 x] V (fun e W' => e = .returned (.bool false) ∧ W' = V) := by
  have q : (x != x) = false := by simp
  go_enter Try.func58, Try.ntmps58
  go_wp2
  go_ret
  exact ⟨rfl, rfl⟩
set_option maxRecDepth 100000 in
theorem lessI_c (x y : Int) (V : World) (r : Bool) (hr : decide (x < y) = r) : Calls Try.prog 38 #[.int .i64 x, .int .i64 y] V (fun e W' => e = .returned (.bool r) ∧ W' = V) := by
  have C := Lib.hid (fun x V => nan_c x V)
  have HR := Lib.hid hr
  clear hr
  go_enter Try.func38, Try.ntmps38
  go_wp2_with (go_at_call 58; refine (C.out _ _).mono ?_; rintro e w1 ⟨rfl, hw⟩; subst hw)
  go_ret
  exact ⟨by rw [← HR.out]; rfl, rfl⟩
set_option maxRecDepth 100000 in
set_option maxHeartbeats 4000000 in
theorem sortedI_c (A : Option Addr) (l : List Int) (n ca : Nat) (W : World) (hn : l.length = n) (hbig : n ≤ 4611686018427387904) (hx : Reads W A (l.map (Value.int .i64))) (hs : l.Pairwise (· < ·)) :
    Calls Try.prog 16 #[.slice A n ca] W (fun e W' => e = .returned (.bool true) ∧ Drawn W W') := by
  have HX := Lib.hid hx
  have HN := Lib.hid hn
  have HS := Lib.hid hs
  clear hx hn hs
  go_enter Try.func16, Try.ntmps16
  go_wp2
  go_loopw [3] (fun i wr => ∃ j : Int, -1 ≤ j ∧ j < (n : Int) ∧ i = .int .i64 j ∧ Drawn W wr) (fun i _ => (intOf i).toNat)
  case atStart => exact ⟨(n : Int) - 1, by omega, by omega, rfl, Drawn.refl _⟩
  case round =>
    obtain ⟨j, hj1, hj2, rfl, hB⟩ := hrel
    have HB := Lib.hid hB
    by_cases hz : 0 < j
    · obtain ⟨m, hm⟩ : ∃ m : Nat, j = (m : Int) + 1 := ⟨(j - 1).toNat, by omega⟩
      subst hm
      have k1 : m + 1 < l.length := by rw [HN.out]; omega
      have k0' : m < l.length := by omega
      obtain ⟨u, hu⟩ : ∃ u, l[m + 1]? = some u := ⟨_, List.getElem?_eq_getElem k1⟩
      obtain ⟨v, hv⟩ : ∃ v, l[m]? = some v := ⟨_, List.getElem?_eq_getElem k0'⟩
      have huv : v < u := by
        have := List.pairwise_iff_getElem.1 HS.out m (m + 1) k0' k1 (by omega)
        rw [(List.getElem?_eq_some_iff.1 hu).2, (List.getElem?_eq_some_iff.1 hv).2] at this
        exact this
      obtain ⟨b, o, e, _, x0⟩ := (HX.out.drawn hB) (m + 1) (.int .i64 u) (by rw [List.getElem?_map, hu]; rfl)
      obtain ⟨b', o', e', _, y0⟩ := (HX.out.drawn hB) m (.int .i64 v) (by rw [List.getElem?_map, hv]; rfl)
      rw [e] at e'
      injection e' with e'
      injection e' with e1 e2
      subst e1 e2 e
      obtain ⟨d, hd⟩ : ∃ d : Nat, d = m + 1 := ⟨_, rfl⟩
      have LS := Lib.hid (fun V => lessI_c u v V false (decide_eq_false (by omega)))
      rw [← hd] at x0
      rw [show (m : Int) + 1 = (d : Int) by omega]
      have e3 : IntKind.i64.wrap ((d : Int) - 1) = (m : Int) := by rw [show (d : Int) - 1 = (m : Int) by omega]; exact IntWalk.i64_in _ (by omega)
      have i1 : (d : Int) < (n : Int) := by omega
      have i2 : (m : Int) < (n : Int) := by omega
      have i3 : (0 : Int) < (d : Int) := by omega
      have HD := Lib.hid hd
      clear hu hv huv hB k1 k0' hz hj1 hj2 hd
      go_wp2_with fail
      go_quiet ((go_at_call 38; exact Calls.quiet_of_same (LS.out _)))
      go_wp2
      go_roundw
      case rel => exact ⟨(m : Int), by omega, by omega, rfl, HB.out.more _⟩
      case measure => have := HD.out; simp [intOf]; omega
    · clear hB
      go_wp2
      go_ret
      exact ⟨rfl, HB.out⟩
end Go.Proofs.Ythebilmeehnkpaa.Gt
