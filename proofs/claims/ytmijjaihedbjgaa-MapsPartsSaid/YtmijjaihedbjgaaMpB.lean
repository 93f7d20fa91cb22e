/-
  LStep: the document's own test of a step.
-/
import Derived.Test.YtmijjaihedbjgaaMpA
namespace Go.Proofs.Ytmijjaihedbjgaa.Mps
set_option linter.unusedVariables false
set_option linter.unusedSimpArgs false
open Go.RowKit Mem

/-- The place of the change ahead. -/
def pv (cs : List Ch) : Nat → Int
  | 0 => -1
  | j + 1 => ((cs[j]?).map (fun c => c.1)).getD 0
theorem pv_at {cs : List Ch} {j k : Nat} {x : Ch} (hk : k = j + 1) (h : cs[j]? = some x) : pv cs k = x.1 := by subst hk; simp [pv, h]
set_option maxRecDepth 100000 in
set_option maxHeartbeats 8000000 in
theorem lstep_c (e : Int) (A : Option Addr) (cs : List Ch) (n ca : Nat) (W : World) (hn : cs.length = n) (hbig : n ≤ 5864062014805) (hx : CRds W A cs) (b : Bool) (hb : decide (okC (-1) cs) = b) :
    Calls Try.prog 21 #[.agg #[.int .i64 e, .slice A n ca]] W (Gave (.bool b) W) := by
  obtain ⟨s0, s1⟩ := boxS W (.int .i64 e) (.slice A n ca)
  obtain ⟨W1, hW1⟩ : ∃ W1, W1 = W.alloc (.cells #[.int .i64 e, .slice A n ca] 27) := ⟨_, rfl⟩
  have B1 := Lib.hid (show Below W.heap.size W W1 by rw [hW1]; exact (Below.refl _ _).alloc (Nat.le_refl _) _)
  have Z1 : W.heap.size < W1.heap.size := by rw [hW1]; simp
  have HX := Lib.hid (hx.below B1.out)
  have HN := Lib.hid hn
  have HB := Lib.hid hb
  have HS := Lib.hid Z1
  clear hx hn hb
  go_enter Try.func21, Try.ntmps21
  go_wp2
  go_loopw [8] (fun i wr => ∃ (k : Nat), k ≤ n ∧ i = .int .i64 k ∧ (okC (-1) cs ↔ okC (pv cs k) (cs.drop k)) ∧ -1 ≤ pv cs k ∧ Below W1.heap.size W1 wr) (fun i _ => n - (intOf i).toNat)
  case atStart => exact ⟨0, by omega, rfl, Iff.rfl, by simp [pv], by rw [hW1]; exact Below.refl _ _⟩
  case round =>
    obtain ⟨k, hk, rfl, hI, hP, hB⟩ := hrel
    have HB2 := Lib.hid (B1.out.trans (hB.mono B1.out.size))
    rw [← hW1] at s0 s1
    have t0 := (hB.cell (p := ⟨W.heap.size, 0, none⟩) HS.out).trans s0
    have t1 := (hB.cell (p := ⟨W.heap.size, 1, none⟩) HS.out).trans s1
    by_cases hlt : k < n
    · have k1 : k < cs.length := by rw [HN.out]; exact hlt
      have ex : cs[k]? = some cs[k] := List.getElem?_eq_getElem k1
      obtain ⟨x, hu⟩ : ∃ x, x = cs[k] := ⟨_, rfl⟩
      rw [← hu] at ex
      obtain ⟨b1, o1, hA, hb1, x0, x1, x2⟩ := (HX.out.below hB) k x ex
      have HI := Lib.hid (hI.trans (okC_step ex (pv cs k)))
      have PN := Lib.hid (pv_at (k := k + 1) rfl ex)
      obtain ⟨c0, c1, c2⟩ := x
      have HB3 := Lib.hid (hB.alloc hB.size (.cells #[.int .i64 c0, .int .i64 c1, .int .i64 c2] 33))
      have i1 : (k : Int) < (n : Int) := by omega
      have HBW := Lib.hid (B1.out.trans (HB3.out.mono B1.out.size))
      obtain ⟨bx, hbx⟩ : ∃ bx, bx = W.heap.size := ⟨_, rfl⟩
      have hbl : bx < wr.heap.size := by rw [hbx]; exact Nat.lt_of_lt_of_le HS.out hB.size
      obtain ⟨f0, f1, f2⟩ := boxC wr (.int .i64 c0) (.int .i64 c1) (.int .i64 c2)
      clear hu k1 hI
      by_cases h1 : c0 < 0
      · have HF := Lib.hid (show b = false by rw [← HB.out]; exact decide_eq_false (fun h => by have := (HI.out.1 h).1; simp at this; omega))
        have q1 : decide (c0 < 0) = true := decide_eq_true h1
        subst hA
        clear ex hB hP
        go_wp2
        go_ret
        exact ⟨by rw [HF.out]; rfl, HBW.out⟩
      · have q1 : decide (c0 < 0) = false := decide_eq_false h1
        by_cases h2 : c1 = c2
        · have HF := Lib.hid (show b = false by rw [← HB.out]; exact decide_eq_false (fun h => (HI.out.1 h).2.1 h2))
          have q2 : (c1 == c2) = true := by simpa using h2
          subst hA
          clear h2 ex hB hP
          go_wp2
          go_ret
          exact ⟨by rw [HF.out]; rfl, HBW.out⟩
        · have q2 : (c1 == c2) = false := by simpa using h2
          have HG := Lib.hid (show pv cs k < c0 → (okC (-1) cs ↔ okC (pv cs (k + 1)) (cs.drop (k + 1))) from fun hp => by rw [PN.out]; exact HI.out.trans ⟨fun h => h.2.2, fun h => ⟨by simpa using hp, h2, h⟩⟩)
          have HP1 := Lib.hid (show -1 ≤ pv cs (k + 1) by rw [PN.out]; simp; omega)
          clear h2
          rcases Nat.eq_zero_or_pos k with hk0 | hk0
          · have q3 : decide (0 < k) = false := decide_eq_false (by omega)
            have HG2 := Lib.hid (HG.out (by rw [hk0]; simp [pv]; omega))
            subst hA
            clear ex hB hP HG hk0
            go_wp2
            go_quiet (fail)
            go_wp2
            go_roundw
            case rel => exact ⟨k + 1, by omega, by go_num, HG2.out, HP1.out, below_drewN HB3.out _⟩
            case measure => simp [intOf]; omega
          · obtain ⟨m, hm⟩ : ∃ m, k = m + 1 := ⟨k - 1, by omega⟩
            have q3 : decide (0 < k) = true := decide_eq_true (by omega)
            have HM := Lib.hid hm
            have wm : IntKind.i64.wrap ((k : Int) - 1) = (m : Int) := by rw [IntWalk.i64_in _ (by omega)]; omega
            have m1 : m < cs.length := by rw [HN.out]; omega
            have ey : cs[m]? = some cs[m] := List.getElem?_eq_getElem m1
            obtain ⟨y, hy⟩ : ∃ y, y = cs[m] := ⟨_, rfl⟩
            rw [← hy] at ey
            obtain ⟨b2, o2, hA2, hb2, y0, y1, y2⟩ := (HX.out.below hB) m y ey
            rw [hA] at hA2
            injection hA2 with hA2
            injection hA2 with e1 e2
            subst e1 e2
            have PV := Lib.hid (pv_at hm ey)
            obtain ⟨p0, p1, p2⟩ := y
            have i2 : (m : Int) < (n : Int) := by omega
            have u0 := (((Below.refl wr.heap.size wr).alloc (Nat.le_refl _) (.cells #[.int .i64 c0, .int .i64 c1, .int .i64 c2] 33)).cell (p := ⟨b1, o1 + m * 3, none⟩) hb2).trans y0
            have u1 := (((Below.refl wr.heap.size wr).alloc (Nat.le_refl _) (.cells #[.int .i64 c0, .int .i64 c1, .int .i64 c2] 33)).cell (p := ⟨W.heap.size, 1, none⟩) (by rw [← hbx]; exact hbl)).trans t1
            subst hA
            by_cases h3 : c0 ≤ p0
            · have HF := Lib.hid (show b = false by rw [← HB.out]; exact decide_eq_false (fun h => by have := (HI.out.1 h).1; rw [PV.out] at this; simp at this; omega))
              have q4 : decide (c0 ≤ p0) = true := decide_eq_true h3
              clear ex hB hP HG hy ey m1 hm hb1 hb2 y1 y2 hbx hbl
              go_wp2
              go_quiet (fail)
              go_wp2
              go_ret
              exact ⟨by rw [HF.out]; rfl, below_drewN HBW.out _⟩
            · have q4 : decide (c0 ≤ p0) = false := decide_eq_false h3
              have HG2 := Lib.hid (HG.out (by rw [PV.out]; simp; omega))
              clear ex hB hP HG hy ey m1 hm hb1 hb2 y1 y2 hbx hbl
              go_wp2
              go_quiet (fail)
              go_wp2
              go_roundw
              case rel => exact ⟨k + 1, by omega, by go_num, HG2.out, HP1.out, below_drewN HB3.out _⟩
              case measure => simp [intOf]; omega
    · obtain rfl : k = n := by omega
      have HT := Lib.hid (show b = true by rw [← HB.out]; exact decide_eq_true (hI.2 (by rw [List.drop_of_length_le (by rw [HN.out]; omega)]; trivial)))
      clear hB hI hP
      go_wp2
      go_ret
      exact ⟨by rw [HT.out]; rfl, HB2.out⟩
end Go.Proofs.Ytmijjaihedbjgaa.Mps
