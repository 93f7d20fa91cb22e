/-
  Package lease: what the laws take of the program, of the landed text.
-/
import Derived.Test.YteneglbafngejaaLePg
namespace Go.Proofs.Yteneglbafngejaa.LeP
set_option linter.unusedVariables false
set_option linter.unusedSimpArgs false
open Go.RowKit Mem Gt Le

set_option maxRecDepth 100000 in
set_option maxHeartbeats 8000000 in
theorem play_bad (m long off : Int) (A : Option Addr) (n ca : Nat) (V : World) (h : m < 1 ∨ 16 < m ∨ long < 1 ∨ 1048576 < long ∨ off < 0 ∨ 1048576 < off ∨ 400 < n) (hn : n ≤ 5864062014806) :
    Calls Try.prog 8 #[.int .i64 m, .int .i64 long, .int .i64 off, .slice A n ca] V (PlayOut [] 0 2 V) := by
  have fin : PlayOut [] 0 2 V (.returned (.tuple #[.slice none 0 0, .int .i64 2])) V := ⟨none, 0, rfl, by simp, Reads.nil, Below.refl _ _⟩
  by_cases h1 : 1 ≤ m ∧ m ≤ 16
  · have E1 := Lib.hid (decide_eq_true h1)
    by_cases h2 : 1 ≤ long ∧ long ≤ 1048576
    · have E2 := Lib.hid (decide_eq_true h2)
      by_cases h3 : 0 ≤ off ∧ off ≤ 1048576
      · have E3 := Lib.hid (decide_eq_true h3)
        have h4 : (400 : Int) < (n : Int) := by omega
        clear h h1 h2 h3
        go_enter Try.func8, Try.ntmps8
        go_wp2_with (go_at_call 13; refine (isin_c _ _ _ true _ (by with_reducible first | exact E1.out | exact E2.out | exact E3.out)).mono ?_; rintro e w1 ⟨rfl, hw⟩; rw [hw]; clear hw)
        go_ret2
        exact fin
      · have E3 := Lib.hid (decide_eq_false h3)
        clear h h1 h2 h3
        go_enter Try.func8, Try.ntmps8
        go_wp2_with (first
          | (go_at_call 13; refine (isin_c _ _ _ true _ (by with_reducible first | exact E1.out | exact E2.out)).mono ?_; rintro e w1 ⟨rfl, hw⟩; rw [hw]; clear hw)
          | (go_at_call 13; refine (isin_c _ _ _ false _ (by with_reducible exact E3.out)).mono ?_; rintro e w1 ⟨rfl, hw⟩; rw [hw]; clear hw))
        go_ret2
        exact fin
    · have E2 := Lib.hid (decide_eq_false h2)
      clear h h1 h2
      go_enter Try.func8, Try.ntmps8
      go_wp2_with (first
        | (go_at_call 13; refine (isin_c _ _ _ true _ (by with_reducible exact E1.out)).mono ?_; rintro e w1 ⟨rfl, hw⟩; rw [hw]; clear hw)
        | (go_at_call 13; refine (isin_c _ _ _ false _ (by with_reducible exact E2.out)).mono ?_; rintro e w1 ⟨rfl, hw⟩; rw [hw]; clear hw))
      go_ret2
      exact fin
  · have E1 := Lib.hid (decide_eq_false h1)
    clear h h1
    go_enter Try.func8, Try.ntmps8
    go_wp2_with (go_at_call 13; refine (isin_c _ _ _ false _ (by with_reducible exact E1.out)).mono ?_; rintro e w1 ⟨rfl, hw⟩; rw [hw]; clear hw)
    go_ret2
    exact fin
theorem playSpec : PlaySpec := by
  intro m long off A l n ca V al na k hm hlo hof hl hn hx hf hk hal hna
  by_cases h : m < 1 ∨ 16 < m ∨ long < 1 ∨ 1048576 < long ∨ off < 0 ∨ 1048576 < off ∨ 400 < n
  · have e : playE m long off n = 2 := if_pos h
    obtain rfl : 2 = k := e.symm.trans hk
    unfold playL at hal
    rw [hl, e, if_neg (by decide)] at hal
    subst hal
    subst hna
    exact play_bad m long off A n ca V h hn
  · have e : playE m long off n = 0 := if_neg h
    obtain rfl : 0 = k := e.symm.trans hk
    obtain ⟨q, rfl⟩ : ∃ q : Nat, m = (q : Int) := ⟨m.toNat, by omega⟩
    unfold playL at hal
    rw [hl, e, if_pos rfl] at hal
    have hR := like_run (m := q) (long := long) (off := off) (by omega) (by omega) (by omega) l L0 R0 (inv0 (by omega) (by omega) (by omega)) (like0 q long off)
    have hna' : na = n := by rw [← hna, ← hal, answers_len, hl]
    subst hna'
    have := play_ok q long off A l na ca V (by omega) (by omega) (by omega) (by omega) hl (by omega) hx hf
    rw [hR, hal] at this
    exact this
end Go.Proofs.Yteneglbafngejaa.LeP
namespace Go.Proofs.Yteneglbafngejaa.Le
theorem playSpec : PlaySpec := LeP.playSpec
end Go.Proofs.Yteneglbafngejaa.Le
