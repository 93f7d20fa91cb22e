/-
  The document's own answers of package logs: ORight, OHigher, OCommon.
-/
import Derived.Test.YtmnhhfhdaagmhaaLgMem
import Derived.Deep.Cut
import Derived.Deep.DeepCutAuto
namespace Go.Proofs.Ytmnhhfhdaagmhaa.Lg
set_option linter.unusedVariables false
set_option linter.unusedSimpArgs false
open Go.RowKit Mem Gt
open Jump (Gave equalZ_c)

def eOf (l : List En) : Int := (l.getLast?.map (·.1)).getD 0
def nOf (l : List En) : Int := (l.getLast?.map (·.2.1)).getD 0
theorem of_snoc (l : List En) (x : En) : eOf (l ++ [x]) = x.1 ∧ nOf (l ++ [x]) = x.2.1 := by unfold eOf nOf; simp
theorem ok_step {l : List En} {k : Nat} {x : En} (h : l[k]? = some x) : okFrom 0 0 (l.take (k + 1)) = (okFrom 0 0 (l.take k) && (decide (eOf (l.take k) ≤ x.1) && decide (nOf (l.take k) < x.2.1))) ∧ eOf (l.take (k + 1)) = x.1 ∧ nOf (l.take (k + 1)) = x.2.1 := by
  rw [List.take_add_one, h]
  exact ⟨okFrom_snoc 0 0 _ x, of_snoc _ x⟩
set_option maxRecDepth 100000 in
set_option maxHeartbeats 8000000 in
theorem oright_c (A : Option Addr) (l : List En) (n ca : Nat) (V : World) (hn : l.length = n) (hbig : n ≤ 140737488355328) (hx : Reads V A (flat enE l)) : Calls Try.prog 13 #[.slice A n ca] V (Gave (.bool (okL l)) V) := by
  have HX := Lib.hid hx
  have HN := Lib.hid hn
  obtain ⟨b4, hb4⟩ : ∃ b, b = decide (l.length ≤ 400) := ⟨_, rfl⟩
  have HB4 := Lib.hid hb4
  have i0 : decide ((n : Int) ≤ 400) = b4 := by rw [hb4, ← hn]; exact decide_eq_decide.2 ⟨fun h => by omega, fun h => by omega⟩
  clear hx hn hb4
  go_enter Try.func13, Try.ntmps13
  go_wp2_with fail
  go_loopw [3, 4, 5, 13] (fun f e m i wr => ∃ (k : Nat) (c : Bool) (e0 n0 : Int), k ≤ n ∧ i = .int .i64 k ∧ f = .bool c ∧ e = .int .i64 e0 ∧ m = .int .i64 n0 ∧ c = (b4 && okFrom 0 0 (l.take k)) ∧ e0 = eOf (l.take k) ∧ n0 = nOf (l.take k) ∧ Below V.heap.size V wr) (fun _ _ _ i _ => n - (intOf i).toNat)
  case atStart => exact ⟨0, b4, 0, 0, by omega, rfl, by first | rfl | rw [i0], rfl, rfl, by simp [okFrom], rfl, rfl, Below.refl _ _⟩
  case round =>
    obtain ⟨k, c, e0, n0, hk, rfl, rfl, rfl, rfl, hc, he, hm, hB⟩ := hrel
    clear i0
    have BB := Lib.hid hB
    have HC := Lib.hid hc
    by_cases hlt : k < n
    · have kl : k < l.length := by rw [HN.out]; exact hlt
      obtain ⟨⟨x0, x1, x2⟩, hx⟩ : ∃ x, l[k]? = some x := ⟨_, List.getElem?_eq_getElem kl⟩
      obtain ⟨b1, o1, rfl, hb1, y0, y1, y2⟩ := en_at (HX.out.below hB) hx
      obtain ⟨s1, s2, s3⟩ := ok_step hx
      rw [← he, ← hm] at s1
      have SE := Lib.hid s2
      have SN := Lib.hid s3
      have SC := Lib.hid (show (b4 && okFrom 0 0 (l.take (k + 1))) = (c && (decide (e0 ≤ x0) && decide (n0 < x1))) by rw [s1, hc, Bool.and_assoc])
      obtain ⟨d0, d1, d2⟩ := box_en (w := wr) (x0, x1, x2)
      have B1 := Lib.hid (hB.trans ((low_lit wr (.cells #[.int .i64 x0, .int .i64 x1, .int .i64 x2] tE)).mono hB.size))
      simp only at y0 y1 y2 d0 d1 d2 SE SN
      have i1 : (k : Int) < (n : Int) := by omega
      clear kl hx hb1 hc he hm hB s1 s2 s3
      cases c with
      | false =>
        go_upto_region 7 with fail
        go_quiet (fail)
        go_wp2
        go_roundw
        case rel => exact ⟨k + 1, _, _, _, by omega, by go_num, rfl, rfl, rfl, by rw [SC.out]; rfl, SE.out.symm, SN.out.symm, Mem.below_drewN B1.out _⟩
        case measure => simp [intOf]; omega
      | true =>
        by_cases h1 : e0 ≤ x0
        · have j1 : decide (e0 ≤ x0) = true := decide_eq_true h1
          by_cases h2 : n0 < x1
          · have j2 : decide (n0 < x1) = true := decide_eq_true h2
            go_upto_region 7 with fail
            go_quiet (fail)
            go_wp2
            go_roundw
            case rel => exact ⟨k + 1, true, _, _, by omega, by go_num, rfl, rfl, rfl, by rw [SC.out, j1, j2]; rfl, SE.out.symm, SN.out.symm, Mem.below_drewN B1.out _⟩
            case measure => simp [intOf]; omega
          · have j2 : decide (n0 < x1) = false := decide_eq_false h2
            go_upto_region 7 with fail
            go_quiet (fail)
            go_wp2
            go_roundw
            case rel => exact ⟨k + 1, false, _, _, by omega, by go_num, rfl, rfl, rfl, by rw [SC.out, j2]; simp, SE.out.symm, SN.out.symm, Mem.below_drewN B1.out _⟩
            case measure => simp [intOf]; omega
        · have j1 : decide (e0 ≤ x0) = false := decide_eq_false h1
          go_upto_region 7 with fail
          go_quiet (fail)
          go_wp2
          go_roundw
          case rel => exact ⟨k + 1, false, _, _, by omega, by go_num, rfl, rfl, rfl, by rw [SC.out, j1]; simp, SE.out.symm, SN.out.symm, Mem.below_drewN B1.out _⟩
          case measure => simp [intOf]; omega
    · obtain rfl : k = n := by omega
      have E := Lib.hid (show c = okL l by rw [HC.out, HB4.out, List.take_of_length_le (by rw [HN.out]; exact Nat.le_refl _)]; rfl)
      clear hc he hm hB
      go_wp2
      rw [← E.out]
      go_ret
      exact ⟨rfl, BB.out⟩
set_option maxRecDepth 100000 in
set_option maxHeartbeats 8000000 in
theorem ohigher_c (a b : En) (V : World) : Calls Try.prog 27 #[.agg #[.int .i64 a.1, .int .i64 a.2.1, .int .i64 a.2.2], .agg #[.int .i64 b.1, .int .i64 b.2.1, .int .i64 b.2.2]] V (Gave (.bool (higher a b)) V) := by
  obtain ⟨a0, a1, a2⟩ := a
  obtain ⟨b0, b1, b2⟩ := b
  simp only
  have hA := Mem.Known.made V tE #[.int .i64 a0, .int .i64 a1, .int .i64 a2]
  have hA' := hA.alloc (.cells #[.int .i64 b0, .int .i64 b1, .int .i64 b2] tE)
  have hB := Mem.Known.made (V.alloc (.cells #[.int .i64 a0, .int .i64 a1, .int .i64 a2] tE)) tE #[.int .i64 b0, .int .i64 b1, .int .i64 b2]
  have y0 := hA'.cell 0
  have y1 := hA'.cell 1
  have z0 := hB.cell 0
  have z1 := hB.cell 1
  rw [show (V.alloc (.cells #[.int .i64 a0, .int .i64 a1, .int .i64 a2] tE)).heap.size = V.heap.size + 1 by simp] at z0 z1
  simp at y0 y1 z0 z1
  have BL := Lib.hid ((low_lit V (.cells #[.int .i64 a0, .int .i64 a1, .int .i64 a2] tE)).alloc (by simp) (.cells #[.int .i64 b0, .int .i64 b1, .int .i64 b2] tE))
  clear hA hA' hB
  by_cases h1 : b0 < a0
  · have E : higher (a0, a1, a2) (b0, b1, b2) = true := by unfold higher; simp [h1]
    rw [E]
    clear E
    go_enter Try.func27, Try.ntmps27
    go_wp2
    go_ret
    exact ⟨rfl, BL.out⟩
  · by_cases h2 : a0 = b0
    · subst h2
      have E : higher (a0, a1, a2) (a0, b1, b2) = decide (b1 < a1) := by unfold higher; simp
      rw [E]
      clear E h1
      have h1 : ¬ a0 < a0 := by omega
      have h3 : (a0 == a0) = true := by simp
      go_enter Try.func27, Try.ntmps27
      go_wp2
      go_ret
      exact ⟨rfl, BL.out⟩
    · have h3 : (a0 == b0) = false := by simpa using h2
      have E : higher (a0, a1, a2) (b0, b1, b2) = false := by unfold higher; simp [h1, h2]
      rw [E]
      clear E h2
      go_enter Try.func27, Try.ntmps27
      go_wp2
      go_ret
      exact ⟨rfl, BL.out⟩
end Go.Proofs.Ytmnhhfhdaagmhaa.Lg
