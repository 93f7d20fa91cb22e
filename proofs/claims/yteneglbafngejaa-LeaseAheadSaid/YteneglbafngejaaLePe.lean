/-
  Package lease: performOfNode, perform.
-/
import Derived.Test.YteneglbafngejaaLePd
namespace Go.Proofs.Yteneglbafngejaa.LeP
set_option linter.unusedVariables false
set_option linter.unusedSimpArgs false
open Go.RowKit Mem Gt Le

abbrev tOp : TypeId := 34
abbrev tAn : TypeId := 29
theorem node_kind {m : Nat} {long off a b c : Int} {p : Rs} (h : a < 1 ∨ 5 < a) : nodeR m long off p a b c = (5, p) := by unfold nodeR; rw [if_pos h]
theorem node_out {m : Nat} {long off a b c : Int} {p : Rs} (h : ¬ (a < 1 ∨ 5 < a)) (h2 : b < 0 ∨ (m : Int) - 1 < b) : nodeR m long off p a b c = (3, p) := by unfold nodeR; rw [if_neg h, if_pos h2]
theorem node_in {m k : Nat} {long off a c : Int} {p : Rs} (h : ¬ (a < 1 ∨ 5 < a)) (hk : k < m) : nodeR m long off p a (k : Int) c = if a = 1 then askR long off p k else if a = 2 then giveR p k else if a = 4 then offR off p k c else (0, p) := by
  unfold nodeR; rw [if_neg h, if_neg (by omega), Int.toNat_natCast]
theorem node_zero {m : Nat} {long off a b c : Int} {p q : Rs} (h : nodeR m long off p a b c = (0, q)) : 0 ≤ b ∧ b < (m : Int) := by
  unfold nodeR at h
  split at h
  · injection h with h; cases h
  split at h
  · injection h with h; cases h
  · omega
set_option maxRecDepth 100000 in
set_option maxHeartbeats 16000000 in
theorem node_c (B m : Nat) (long off a b c : Int) (p : Rs) (V : World) (hm : m ≤ 16) (hbd : Bd off p) (ho : 0 ≤ off ∧ off ≤ 1048576) (hlo : 1 ≤ long ∧ long ≤ 1048576) (h : Co B m long off p V) (x : Int) (q : Rs) (hq : nodeR m long off p a b c = (x, q)) :
    Calls Try.prog 16 #[.pointer (some ⟨B + 1, 0, none⟩), .agg #[.int .i64 a, .int .i64 b, .int .i64 c]] V (fun e W' => e = .returned (.int .i64 x) ∧ Co B m long off q W' ∧ Mv B V W') := by
  obtain ⟨W, hW⟩ : ∃ W, W = V.alloc (.cells #[.int .i64 a, .int .i64 b, .int .i64 c] tOp) := ⟨_, rfl⟩
  have y := box_lo (w := V) (a, b, c)
  simp only at y
  have h1 : Co B m long off p W := by rw [hW]; exact h.later (low_lit _ _)
  have m1 : Mv B V W := by rw [hW]; exact (Mv.refl B V).low _
  obtain ⟨D, hD⟩ : ∃ D, D = V.heap.size := ⟨_, rfl⟩
  rw [← hW, ← hD] at y
  obtain ⟨y0, y1, y2⟩ := y
  have z0 : ∀ j, (W.drewN j).cell? ⟨D, 0, none⟩ = some (.int .i64 a) := fun j => y0
  have z1 : ∀ j, (W.drewN j).cell? ⟨D, 1, none⟩ = some (.int .i64 b) := fun j => y1
  have z2 : ∀ j, (W.drewN j).cell? ⟨D, 2, none⟩ = some (.int .i64 c) := fun j => y2
  have HC := Lib.hid h1
  have HM := Lib.hid m1
  have HW := Lib.hid hW
  have HD := Lib.hid hD
  have c5 : W.cell? ⟨B + 1, 5, none⟩ = some (.slice (some ⟨B, 0, none⟩) m m) := h1.sv.cell 5
  clear h h1 m1 hW hD
  by_cases hk : a < 1 ∨ 5 < a
  · have I1 := Lib.hid (fun U => isin_c a 1 5 false U (decide_eq_false (by omega)))
    obtain ⟨rfl, rfl⟩ : 5 = x ∧ p = q := by rw [node_kind hk] at hq; injection hq with h1 h2; exact ⟨h1, h2⟩
    clear hq hk hbd z0 z1 z2 c5
    go_enter Try.func16, Try.ntmps16
    go_upto_region 1 with fail
    rw [← HW.out, ← HD.out]
    go_wp2_with (go_at_call 13; refine (I1.out _).mono ?_; rintro e w1 ⟨rfl, rfl⟩)
    go_ret
    exact ⟨rfl, HC.out, HM.out⟩
  have I1 := Lib.hid (fun U => isin_c a 1 5 true U (decide_eq_true (by omega)))
  have w1 : IntKind.i64.wrap ((m : Int) - 1) = (m : Int) - 1 := IntWalk.i64_in _ (by omega)
  by_cases hi : b < 0 ∨ (m : Int) - 1 < b
  · have I2 := Lib.hid (fun U => isinQ b 0 ((m : Int) - 1) false U (decide_eq_false (by omega)))
    obtain ⟨rfl, rfl⟩ : 3 = x ∧ p = q := by rw [node_out hk hi] at hq; injection hq with h1 h2; exact ⟨h1, h2⟩
    clear hq hk hi hbd
    go_enter Try.func16, Try.ntmps16
    go_upto_region 1 with fail
    rw [← HW.out, ← HD.out]
    go_upto_region 3 with (go_at_call 13; refine (I1.out _).mono ?_; rintro e w1 ⟨rfl, rfl⟩)
    go_quiet ((go_at_call 13; exact quiet_dr (I2.out _)))
    go_wp2
    go_ret
    exact ⟨rfl, HC.out.drewN _, HM.out.drewN _⟩
  have I2 := Lib.hid (fun U => isinQ b 0 ((m : Int) - 1) true U (decide_eq_true (by omega)))
  obtain ⟨k, rfl⟩ : ∃ k : Nat, b = (k : Int) := ⟨b.toNat, by omega⟩
  have hkm : k < m := by omega
  rw [node_in hk hkm] at hq
  have ha : a = 1 ∨ a = 2 ∨ a = 4 ∨ a = 5 ∨ a = 3 := by omega
  rcases ha with rfl | rfl | rfl | rfl | rfl
  · rw [if_pos rfl] at hq
    have FC := Lib.hid (fun j => by have := ask_c B m k long off p (W.drewN j) hkm hbd ho hlo (HC.out.drewN j); rw [hq] at this; exact this)
    clear hq hk hi hbd ho hlo hkm
    go_enter Try.func16, Try.ntmps16
    go_upto_region 1 with fail
    rw [← HW.out, ← HD.out]
    go_upto_region 3 with (go_at_call 13; refine (I1.out _).mono ?_; rintro e w1 ⟨rfl, rfl⟩)
    go_quiet ((go_at_call 13; exact quiet_dr (I2.out _)))
    go_wp2_with (go_at_call 18; refine (FC.out _).mono ?_; rintro e w9 ⟨rfl, hC, hM⟩; have C9 := Lib.hid hC; have M9 := Lib.hid hM; clear hC hM)
    go_ret
    exact ⟨rfl, C9.out, (HM.out.drewN _).trans M9.out⟩
  · rw [if_neg (by decide), if_pos rfl] at hq
    have FC := Lib.hid (fun j => by have := give_c B m k long off p (W.drewN j) hkm (HC.out.drewN j); rw [hq] at this; exact this)
    clear hq hk hi hbd ho hlo hkm
    go_enter Try.func16, Try.ntmps16
    go_upto_region 1 with fail
    rw [← HW.out, ← HD.out]
    go_upto_region 3 with (go_at_call 13; refine (I1.out _).mono ?_; rintro e w1 ⟨rfl, rfl⟩)
    go_quiet ((go_at_call 13; exact quiet_dr (I2.out _)))
    go_wp2_with (go_at_call 19; refine (FC.out _).mono ?_; rintro e w9 ⟨rfl, hC, hM⟩; have C9 := Lib.hid hC; have M9 := Lib.hid hM; clear hC hM)
    go_ret
    exact ⟨rfl, C9.out, (HM.out.drewN _).trans M9.out⟩
  · rw [if_neg (by decide), if_neg (by decide), if_pos rfl] at hq
    have FC := Lib.hid (fun j => by have := setoff_c B m k long off c p (W.drewN j) hkm ho (HC.out.drewN j); rw [hq] at this; exact this)
    clear hq hk hi hbd ho hlo hkm
    go_enter Try.func16, Try.ntmps16
    go_upto_region 1 with fail
    rw [← HW.out, ← HD.out]
    go_upto_region 3 with (go_at_call 13; refine (I1.out _).mono ?_; rintro e w1 ⟨rfl, rfl⟩)
    go_quiet ((go_at_call 13; exact quiet_dr (I2.out _)))
    go_wp2_with (go_at_call 20; refine (FC.out _).mono ?_; rintro e w9 ⟨rfl, hC, hM⟩; have C9 := Lib.hid hC; have M9 := Lib.hid hM; clear hC hM)
    go_ret
    exact ⟨rfl, C9.out, (HM.out.drewN _).trans M9.out⟩
  all_goals
    obtain ⟨rfl, rfl⟩ : 0 = x ∧ p = q := by rw [if_neg (by decide), if_neg (by decide), if_neg (by decide)] at hq; injection hq with h1 h2; exact ⟨h1, h2⟩
    clear hq hk hi hbd ho hlo hkm
    go_enter Try.func16, Try.ntmps16
    go_upto_region 1 with fail
    rw [← HW.out, ← HD.out]
    go_upto_region 3 with (go_at_call 13; refine (I1.out _).mono ?_; rintro e w1 ⟨rfl, rfl⟩)
    go_quiet ((go_at_call 13; exact quiet_dr (I2.out _)))
    go_wp2
    go_ret
    exact ⟨rfl, HC.out.drewN _, HM.out.drewN _⟩
end Go.Proofs.Yteneglbafngejaa.LeP
