/-
  Package lease, pure: what an operation does, case by case.
-/
import Derived.Test.YteneglbafngejaaLePure
namespace Go.Proofs.Yteneglbafngejaa.Le
set_option linter.unusedVariables false
set_option linter.unusedSimpArgs false
variable {nodes long off : Int} {s : Ls} {nd n : Int}
theorem step_no {o : LO} (h : opE nodes long off s o ≠ 0) : step nodes long off s o = s := by unfold step; rw [if_neg h]
theorem step_yes {o : LO} (h : opE nodes long off s o = 0) : step nodes long off s o = act long s o := by unfold step; rw [if_pos h]
theorem c_tick_bad (h : n < 0 ∨ 1099511627776 < n ∨ 1099511627776 < s.now + n) : opE nodes long off s (3, nd, n) = 2 := by unfold opE; rw [if_pos ⟨rfl, h⟩]
theorem c_tick (h : ¬ (n < 0 ∨ 1099511627776 < n ∨ 1099511627776 < s.now + n)) : opE nodes long off s (3, nd, n) = 0 := by unfold opE; rw [if_neg (fun e => h e.2), if_pos rfl]
theorem c_kind {kd : Int} (h3 : kd ≠ 3) (h : kd < 1 ∨ 5 < kd) : opE nodes long off s (kd, nd, n) = 5 := by unfold opE; rw [if_neg (fun e => h3 e.1), if_neg h3, if_pos h]
theorem c_out {kd : Int} (h3 : kd ≠ 3) (h : ¬ (kd < 1 ∨ 5 < kd)) (hi : ¬ (0 ≤ nd ∧ nd < nodes)) : opE nodes long off s (kd, nd, n) = 3 := by unfold opE; rw [if_neg (fun e => h3 e.1), if_neg h3, if_neg h, if_pos hi]
theorem c_in {kd : Int} (h3 : kd ≠ 3) (h : ¬ (kd < 1 ∨ 5 < kd)) (hi : 0 ≤ nd ∧ nd < nodes) : opE nodes long off s (kd, nd, n) =
    if kd = 4 ∧ (off < n ∨ n < -off) then 2 else if kd = 4 then 0 else if kd = 1 ∧ 0 ≤ s.holder ∧ s.holder ≠ nd ∧ s.now - s.given < long + 2 * off then 6 else if kd = 1 then 0 else if kd = 2 ∧ s.holder ≠ nd then 3 else 0 := by
  unfold opE; rw [if_neg (fun e => h3 e.1), if_neg h3, if_neg h, if_neg (fun e => e hi)]
theorem c_fast_bad (hi : 0 ≤ nd ∧ nd < nodes) (h : off < n ∨ n < -off) : opE nodes long off s (4, nd, n) = 2 := by rw [c_in (by decide) (by decide) hi, if_pos ⟨rfl, h⟩]
theorem c_fast (hi : 0 ≤ nd ∧ nd < nodes) (h : ¬ (off < n ∨ n < -off)) : opE nodes long off s (4, nd, n) = 0 := by rw [c_in (by decide) (by decide) hi, if_neg (fun e => h e.2), if_pos rfl]
theorem c_ask_bad (hi : 0 ≤ nd ∧ nd < nodes) (h : 0 ≤ s.holder ∧ s.holder ≠ nd ∧ s.now - s.given < long + 2 * off) : opE nodes long off s (1, nd, n) = 6 := by rw [c_in (by decide) (by decide) hi, if_neg (by simp), if_neg (by decide), if_pos ⟨rfl, h⟩]
theorem c_ask (hi : 0 ≤ nd ∧ nd < nodes) (h : ¬ (0 ≤ s.holder ∧ s.holder ≠ nd ∧ s.now - s.given < long + 2 * off)) : opE nodes long off s (1, nd, n) = 0 := by rw [c_in (by decide) (by decide) hi, if_neg (by simp), if_neg (by decide), if_neg (fun e => h e.2), if_pos rfl]
theorem c_give_bad (hi : 0 ≤ nd ∧ nd < nodes) (h : s.holder ≠ nd) : opE nodes long off s (2, nd, n) = 3 := by rw [c_in (by decide) (by decide) hi, if_neg (by simp), if_neg (by decide), if_neg (by simp), if_neg (by decide), if_pos ⟨rfl, h⟩]
theorem c_give (hi : 0 ≤ nd ∧ nd < nodes) (h : s.holder = nd) : opE nodes long off s (2, nd, n) = 0 := by rw [c_in (by decide) (by decide) hi, if_neg (by simp), if_neg (by decide), if_neg (by simp), if_neg (by decide), if_neg (fun e => e.2 h)]
theorem c_may (hi : 0 ≤ nd ∧ nd < nodes) : opE nodes long off s (5, nd, n) = 0 := by rw [c_in (by decide) (by decide) hi, if_neg (by simp), if_neg (by decide), if_neg (by simp), if_neg (by decide), if_neg (by simp)]
theorem a_tick : act long s (3, nd, n) = { s with now := s.now + n } := by unfold act; rw [if_pos rfl]
theorem a_fast : act long s (4, nd, n) = { s with offs := put s.offs nd n } := by unfold act; rw [if_neg (by simp), if_pos rfl]
theorem a_ask : act long s (1, nd, n) = { s with holder := nd, given := s.now, unt := put s.unt nd (some (s.now + s.offs nd + long)) } := by unfold act; rw [if_neg (by simp), if_neg (by simp), if_pos rfl]
theorem a_give : act long s (2, nd, n) = { s with holder := -1, unt := put s.unt nd none } := by unfold act; rw [if_neg (by simp), if_neg (by simp), if_neg (by simp), if_pos rfl]
theorem a_may : act long s (5, nd, n) = s := by unfold act; rw [if_neg (by simp), if_neg (by simp), if_neg (by simp), if_neg (by simp)]
end Go.Proofs.Yteneglbafngejaa.Le
