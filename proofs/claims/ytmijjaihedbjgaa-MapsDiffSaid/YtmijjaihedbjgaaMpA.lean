/-
  Maps and steps as they must be: Right, LRight, rightChanges, LStep.
-/
import Derived.Test.YtmijjaihedbjgaaMpTab
namespace Go.Proofs.Ytmijjaihedbjgaa.Mps
set_option linter.unusedVariables false
set_option linter.unusedSimpArgs false
open Go.RowKit Mem

/-- A map as it must be, by its numbers. -/
def okB (e : Int) (n : Nat) : Bool := decide (0 ≤ e ∧ e ≤ 1099511627776 ∧ n ≤ 400)
theorem okB_iff {m : Mp} {n : Nat} (h : m.2.length = n) : okB m.1 n = true ↔ okM m := by unfold okB okM; subst h; simp
theorem okB_false {m : Mp} {n : Nat} (h : m.2.length = n) : okB m.1 n = false ↔ ¬ okM m := by rw [← okB_iff h]; simp

theorem right_c (e : Int) (A : Option Addr) (n c : Nat) (W : World) (b : Bool) (hb : okB e n = b) :
    Calls Try.prog 10 #[.agg #[.int .i64 e, .slice A n c]] W (Gave (.bool b) W) := by
  unfold okB at hb
  by_cases h1 : 0 ≤ e
  · by_cases h2 : e ≤ 1099511627776
    · by_cases h3 : n ≤ 400
      · obtain rfl : b = true := by rw [← hb]; simp [h1, h2, h3]
        have i3 : (n : Int) ≤ 400 := by omega
        clear hb
        go_enter Try.func10, Try.ntmps10
        go_wp2
        go_ret
        exact ⟨rfl, (Below.refl _ _).alloc (Nat.le_refl _) _⟩
      · obtain rfl : b = false := by rw [← hb]; simp [h3]
        have i3 : ¬ (n : Int) ≤ 400 := by omega
        clear hb
        go_enter Try.func10, Try.ntmps10
        go_wp2
        go_ret
        exact ⟨rfl, (Below.refl _ _).alloc (Nat.le_refl _) _⟩
    · obtain rfl : b = false := by rw [← hb]; simp [h2]
      clear hb
      go_enter Try.func10, Try.ntmps10
      go_wp2
      go_ret
      exact ⟨rfl, (Below.refl _ _).alloc (Nat.le_refl _) _⟩
  · obtain rfl : b = false := by rw [← hb]; simp [h1]
    clear hb
    go_enter Try.func10, Try.ntmps10
    go_wp2
    go_ret
    exact ⟨rfl, (Below.refl _ _).alloc (Nat.le_refl _) _⟩

theorem lright_c (e : Int) (A : Option Addr) (n c : Nat) (W : World) (b : Bool) (hb : okB e n = b) :
    Calls Try.prog 11 #[.agg #[.int .i64 e, .slice A n c]] W (Gave (.bool b) W) := by
  unfold okB at hb
  by_cases h1 : 0 ≤ e
  · by_cases h2 : e ≤ 1099511627776
    · by_cases h3 : n ≤ 400
      · obtain rfl : b = true := by rw [← hb]; simp [h1, h2, h3]
        have i3 : (n : Int) < 401 := by omega
        clear hb
        go_enter Try.func11, Try.ntmps11
        go_wp2
        go_ret
        exact ⟨rfl, (Below.refl _ _).alloc (Nat.le_refl _) _⟩
      · obtain rfl : b = false := by rw [← hb]; simp [h3]
        have i3 : ¬ (n : Int) < 401 := by omega
        clear hb
        go_enter Try.func11, Try.ntmps11
        go_wp2
        go_ret
        exact ⟨rfl, (Below.refl _ _).alloc (Nat.le_refl _) _⟩
    · obtain rfl : b = false := by rw [← hb]; simp [h2]
      clear hb
      go_enter Try.func11, Try.ntmps11
      go_wp2
      go_ret
      exact ⟨rfl, (Below.refl _ _).alloc (Nat.le_refl _) _⟩
  · obtain rfl : b = false := by rw [← hb]; simp [h1]
    clear hb
    go_enter Try.func11, Try.ntmps11
    go_wp2
    go_ret
    exact ⟨rfl, (Below.refl _ _).alloc (Nat.le_refl _) _⟩

/-! ### Changes -/
theorem okC_step {cs : List Ch} {k : Nat} {c : Ch} (h : cs[k]? = some c) (b : Int) : okC b (cs.drop k) ↔ b < c.1 ∧ c.2.1 ≠ c.2.2 ∧ okC c.1 (cs.drop (k + 1)) := by
  obtain ⟨h1, rfl⟩ := List.getElem?_eq_some_iff.1 h
  rw [List.drop_eq_getElem_cons h1]
  rfl
set_option maxRecDepth 100000 in
set_option maxHeartbeats 4000000 in
theorem rightCh_c (A : Option Addr) (cs : List Ch) (n ca : Nat) (W : World) (hn : cs.length = n) (hbig : n ≤ 5864062014805) (hx : CRds W A cs) (b : Bool) (hb : decide (okC (-1) cs) = b) :
    Calls Try.prog 19 #[.slice A n ca] W (Gave (.bool b) W) := by
  have HX := Lib.hid hx
  have HN := Lib.hid hn
  have HB := Lib.hid hb
  clear hx hn hb
  go_enter Try.func19, Try.ntmps19
  go_wp2
  go_loopw [3, 8] (fun v i wr => ∃ (k : Nat) (a : Int), k ≤ n ∧ i = .int .i64 k ∧ v = .int .i64 a ∧ (okC (-1) cs ↔ okC a (cs.drop k)) ∧ Below W.heap.size W wr) (fun _ i _ => n - (intOf i).toNat)
  case atStart => exact ⟨0, -1, by omega, rfl, rfl, Iff.rfl, Below.refl _ _⟩
  case round =>
    obtain ⟨k, a, hk, rfl, rfl, hI, hB⟩ := hrel
    by_cases hlt : k < n
    · have k1 : k < cs.length := by rw [HN.out]; exact hlt
      have ex : cs[k]? = some cs[k] := List.getElem?_eq_getElem k1
      obtain ⟨x, hu⟩ : ∃ x, x = cs[k] := ⟨_, rfl⟩
      rw [← hu] at ex
      obtain ⟨b1, o1, rfl, _, x0, x1, x2⟩ := (HX.out.below hB) k x ex
      have HI := Lib.hid (hI.trans (okC_step ex a))
      obtain ⟨c0, c1, c2⟩ := x
      obtain ⟨f0, f1, f2⟩ := boxC wr (.int .i64 c0) (.int .i64 c1) (.int .i64 c2)
      have HB2 := Lib.hid (hB.alloc hB.size (.cells #[.int .i64 c0, .int .i64 c1, .int .i64 c2] 33))
      have i1 : (k : Int) < (n : Int) := by omega
      clear hu ex k1 hB hI
      by_cases h1 : c0 ≤ a
      · have HF := Lib.hid (show b = false by rw [← HB.out]; exact decide_eq_false (fun h => by have := (HI.out.1 h).1; simp at this; omega))
        have q1 : decide (c0 ≤ a) = true := decide_eq_true h1
        go_wp2
        go_ret
        exact ⟨by rw [HF.out]; rfl, HB2.out⟩
      · have q1 : decide (c0 ≤ a) = false := decide_eq_false h1
        by_cases h2 : c1 = c2
        · have HF := Lib.hid (show b = false by rw [← HB.out]; exact decide_eq_false (fun h => (HI.out.1 h).2.1 h2))
          have q2 : (c1 == c2) = true := by simpa using h2
          clear h2
          go_wp2
          go_ret
          exact ⟨by rw [HF.out]; rfl, HB2.out⟩
        · have q2 : (c1 == c2) = false := by simpa using h2
          have HG := Lib.hid (show okC (-1) cs ↔ okC c0 (cs.drop (k + 1)) from HI.out.trans ⟨fun h => h.2.2, fun h => ⟨by simp; omega, h2, h⟩⟩)
          clear h2
          go_wp2
          go_roundw
          case rel => exact ⟨k + 1, c0, by omega, by go_num, rfl, HG.out, HB2.out⟩
          case measure => simp [intOf]; omega
    · obtain rfl : k = n := by omega
      have HT := Lib.hid (show b = true by rw [← HB.out]; exact decide_eq_true (hI.2 (by rw [List.drop_of_length_le (by rw [HN.out]; omega)]; trivial)))
      have HB2 := Lib.hid hB
      clear hB hI
      go_wp2
      go_ret
      exact ⟨by rw [HT.out]; rfl, HB2.out⟩

end Go.Proofs.Ytmijjaihedbjgaa.Mps
