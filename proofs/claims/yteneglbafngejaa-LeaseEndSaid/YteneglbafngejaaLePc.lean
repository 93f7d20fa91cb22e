/-
  Package lease: isIn, clock, tick, setOffset, give, mayAct.
-/
import Derived.Test.YteneglbafngejaaLePb
namespace Go.Proofs.Yteneglbafngejaa.LeP
set_option linter.unusedVariables false
set_option linter.unusedSimpArgs false
open Go.RowKit Mem Gt Le

theorem quiet_dr {P : Program} {f : FuncId} {args : Array Value} {w : World} {n : Nat} {v : Value} (h : Calls P f args (w.drewN n) fun e w' => e = .returned v ∧ ∃ q, w' = (w.drewN n).drewN q) :
    Calls P f args (w.drewN n) fun e w'' => e = .returned v ∧ ∃ m, w'' = w.drewN m :=
  h.mono fun _ _ ⟨he, q, hq⟩ => ⟨he, n + q, by rw [hq, World.drewN_drewN]⟩
set_option maxRecDepth 100000 in
set_option maxHeartbeats 4000000 in
theorem isin_c (n lo hi : Int) (b : Bool) (V : World) (hb : decide (lo ≤ n ∧ n ≤ hi) = b) :
    Calls Try.prog 13 #[.int .i64 n, .int .i64 lo, .int .i64 hi] V (fun e W' => e = .returned (.bool b) ∧ W' = V) := by
  by_cases h1 : lo ≤ n
  · have e1 : decide (lo ≤ n) = true := decide_eq_true h1
    by_cases h2 : n ≤ hi
    · have e2 : decide (n ≤ hi) = true := decide_eq_true h2
      obtain rfl : true = b := by rw [← hb]; simp [h1, h2]
      clear hb
      go_enter Try.func13, Try.ntmps13
      go_wp2
      go_ret
      exact ⟨rfl, rfl⟩
    · have e2 : decide (n ≤ hi) = false := decide_eq_false h2
      obtain rfl : false = b := by rw [← hb]; simp [h1, h2]
      clear hb
      go_enter Try.func13, Try.ntmps13
      go_wp2
      go_ret
      exact ⟨rfl, rfl⟩
  · have e1 : decide (lo ≤ n) = false := decide_eq_false h1
    obtain rfl : false = b := by rw [← hb]; simp [h1]
    clear hb
    go_enter Try.func13, Try.ntmps13
    go_wp2
    go_ret
    exact ⟨rfl, rfl⟩
theorem isinQ (n lo hi : Int) (b : Bool) (V : World) (hb : decide (lo ≤ n ∧ n ≤ hi) = b) :
    Calls Try.prog 13 #[.int .i64 n, .int .i64 lo, .int .i64 hi] V (fun e W' => e = .returned (.bool b) ∧ ∃ j, W' = V.drewN j) :=
  (isin_c n lo hi b V hb).mono fun _ _ ⟨h1, h2⟩ => ⟨h1, 0, h2⟩
set_option maxRecDepth 100000 in
set_option maxHeartbeats 4000000 in
theorem clock_c (B m k : Nat) (long off : Int) (p : Rs) (V : World) (hk : k < m) (hbd : Bd off p) (ho : 0 ≤ off ∧ off ≤ 1048576) (h : Co B m long off p V) :
    Calls Try.prog 21 #[.pointer (some ⟨B + 1, 0, none⟩), .int .i64 k] V (fun e W' => e = .returned (.int .i64 (p.now + p.offs k)) ∧ ∃ j, W' = V.drewN j) := by
  obtain ⟨t, ht⟩ : ∃ t, t = p.now := ⟨_, rfl⟩
  obtain ⟨o, hoo⟩ : ∃ o, o = p.offs k := ⟨_, rfl⟩
  have c2 : V.cell? ⟨B + 1, 2, none⟩ = some (.int .i64 t) := by rw [ht]; exact h.sv.cell 2
  have c5 : V.cell? ⟨B + 1, 5, none⟩ = some (.slice (some ⟨B, 0, none⟩) m m) := h.sv.cell 5
  have n0 : V.cell? ⟨B, k * 3, none⟩ = some (.int .i64 o) := by rw [hoo]; exact (h.nd k hk).1
  have i1 : (k : Int) < (m : Int) := by omega
  have w1 : IntKind.i64.wrap (t + o) = t + o := IntWalk.i64_in _ (by have := hbd.t0; have := hbd.of k; omega)
  rw [← ht, ← hoo]
  clear h hbd ht hoo ho
  go_enter Try.func21, Try.ntmps21
  go_upto_region 1 with fail
  go_quiet (fail)
  go_wp2
  go_ret
  exact ⟨rfl, _, rfl⟩
set_option maxRecDepth 100000 in
set_option maxHeartbeats 4000000 in
theorem may_c (B m k : Nat) (long off : Int) (p : Rs) (V : World) (hk : k < m) (hbd : Bd off p) (ho : 0 ≤ off ∧ off ≤ 1048576) (h : Co B m long off p V) :
    Calls Try.prog 17 #[.pointer (some ⟨B + 1, 0, none⟩), .int .i64 k] V (fun e W' => e = .returned (.bool (mayR p k)) ∧ ∃ j, W' = V.drewN j) := by
  obtain ⟨t, ht⟩ : ∃ t, t = p.now + p.offs k := ⟨_, rfl⟩
  obtain ⟨u, hu⟩ : ∃ u, u = p.till k := ⟨_, rfl⟩
  have CK := Lib.hid (fun j => show Calls Try.prog 21 #[.pointer (some ⟨B + 1, 0, none⟩), .int .i64 k] (V.drewN j) (fun e W' => e = .returned (.int .i64 t) ∧ ∃ q, W' = (V.drewN j).drewN q) by rw [ht]; exact clock_c B m k long off p (V.drewN j) hk hbd ho (h.drewN j))
  have c5 : V.cell? ⟨B + 1, 5, none⟩ = some (.slice (some ⟨B, 0, none⟩) m m) := h.sv.cell 5
  have n1 : V.cell? ⟨B, k * 3 + 1, none⟩ = some (.int .i64 u) := by rw [hu]; exact (h.nd k hk).2.1
  have n2 := (h.nd k hk).2.2
  have i1 : (k : Int) < (m : Int) := by omega
  have E : mayR p k = (p.has k && decide (t < u)) := by unfold mayR; rw [ht, hu]
  rw [E]
  obtain ⟨b, hb⟩ : ∃ b, b = p.has k := ⟨_, rfl⟩
  rw [← hb] at n2 ⊢
  clear h hbd ht hu hb E ho
  cases b with
  | false =>
    go_enter Try.func17, Try.ntmps17
    go_upto_region 1 with fail
    go_quiet (fail)
    go_wp2
    go_ret
    exact ⟨rfl, _, rfl⟩
  | true =>
    obtain ⟨d, hd⟩ : ∃ d, d = decide (t < u) := ⟨_, rfl⟩
    rw [← hd]
    have hd' := hd.symm
    clear hd
    go_enter Try.func17, Try.ntmps17
    go_upto_region 1 with fail
    go_quiet ((go_at_call 21; exact quiet_dr (CK.out _)))
    go_wp2
    go_ret
    exact ⟨by simp, _, rfl⟩
set_option maxRecDepth 100000 in
set_option maxHeartbeats 4000000 in
theorem tick_c (B m : Nat) (long off n : Int) (p : Rs) (V : World) (hbd : Bd off p) (hn : Fit n) (h : Co B m long off p V) :
    Calls Try.prog 15 #[.pointer (some ⟨B + 1, 0, none⟩), .int .i64 n] V (fun e W' => e = .returned (.int .i64 (tickR p n).1) ∧ Co B m long off (tickR p n).2 W' ∧ Mv B V W') := by
  obtain ⟨t, ht⟩ : ∃ t, t = p.now := ⟨_, rfl⟩
  have c2 : V.cell? ⟨B + 1, 2, none⟩ = some (.int .i64 t) := by rw [ht]; exact h.sv.cell 2
  have f2 : V.frozen? ⟨B + 1, 2, none⟩ = false := h.sv.free 2
  have w0 : IntKind.i64.wrap (1099511627776 - t) = 1099511627776 - t := IntWalk.i64_in _ (by have := hbd.t0; omega)
  by_cases hc : 0 ≤ n ∧ n ≤ 1099511627776 - p.now
  · rw [show tickR p n = (0, { p with now := p.now + n }) by unfold tickR; rw [if_pos hc]]
    have IS := Lib.hid (fun W => isin_c n 0 (1099511627776 - t) true W (by rw [ht]; exact decide_eq_true hc))
    have w1 : IntKind.i64.wrap (t + n) = t + n := IntWalk.i64_in _ (by have := hbd.t0; omega)
    have C1 := Lib.hid (h.now1 (t + n))
    have M1 := Lib.hid ((Mv.refl B V).set (r := B + 1) (.inr (.inl rfl)) 2 (.int .i64 (t + n)))
    simp only
    rw [← ht]
    clear h hbd ht hn hc
    go_enter Try.func15, Try.ntmps15
    go_wp2_with (go_at_call 13; refine (IS.out _).mono ?_; rintro e w1 ⟨rfl, rfl⟩)
    go_ret
    exact ⟨rfl, C1.out, M1.out⟩
  · rw [show tickR p n = (2, p) by unfold tickR; rw [if_neg hc]]
    have IS := Lib.hid (fun W => isin_c n 0 (1099511627776 - t) false W (by rw [ht]; exact decide_eq_false hc))
    have C1 := Lib.hid h
    clear h hbd ht hn hc
    go_enter Try.func15, Try.ntmps15
    go_wp2_with (go_at_call 13; refine (IS.out _).mono ?_; rintro e w1 ⟨rfl, rfl⟩)
    go_ret
    exact ⟨rfl, C1.out, Mv.refl _ _⟩
set_option maxRecDepth 100000 in
set_option maxHeartbeats 4000000 in
theorem setoff_c (B m k : Nat) (long off n : Int) (p : Rs) (V : World) (hk : k < m) (ho : 0 ≤ off ∧ off ≤ 1048576) (h : Co B m long off p V) :
    Calls Try.prog 20 #[.pointer (some ⟨B + 1, 0, none⟩), .int .i64 k, .int .i64 n] V (fun e W' => e = .returned (.int .i64 (offR off p k n).1) ∧ Co B m long off (offR off p k n).2 W' ∧ Mv B V W') := by
  have c1 : V.cell? ⟨B + 1, 1, none⟩ = some (.int .i64 off) := h.sv.cell 1
  have c5 : ∀ j, (V.drewN j).cell? ⟨B + 1, 5, none⟩ = some (.slice (some ⟨B, 0, none⟩) m m) := fun j => h.sv.cell 5
  have n0 : ∀ j, (V.drewN j).cell? ⟨B, k * 3, none⟩ = some (.int .i64 (p.offs k)) := fun j => (h.nd k hk).1
  have f0 : ∀ j, (V.drewN j).frozen? ⟨B, k * 3, none⟩ = false := fun j => h.fr _
  have i1 : (k : Int) < (m : Int) := by omega
  have w0 : IntKind.i64.wrap (-off) = -off := IntWalk.i64_in _ (by omega)
  have HC := Lib.hid h
  by_cases hc : -off ≤ n ∧ n ≤ off
  · rw [show offR off p k n = (0, { p with offs := updN p.offs k n }) by unfold offR; rw [if_pos hc]]
    have IS := Lib.hid (fun W => isinQ n (-off) off true W (decide_eq_true hc))
    have C1 := Lib.hid (fun j => (h.drewN j).offs1 hk n)
    have M1 := Lib.hid (fun j => ((Mv.refl B V).drewN j).set (r := B) (.inl rfl) (k * 3) (.int .i64 n))
    clear h hc ho
    go_enter Try.func20, Try.ntmps20
    go_upto_region 1 with fail
    go_quiet ((go_at_call 13; exact quiet_dr (IS.out _)))
    replace c5 := c5 nq
    replace n0 := n0 nq
    replace f0 := f0 nq
    go_wp2
    go_ret
    exact ⟨rfl, C1.out _, M1.out _⟩
  · rw [show offR off p k n = (2, p) by unfold offR; rw [if_neg hc]]
    have IS := Lib.hid (fun W => isinQ n (-off) off false W (decide_eq_false hc))
    clear h hc ho c5 n0 f0
    go_enter Try.func20, Try.ntmps20
    go_upto_region 1 with fail
    go_quiet ((go_at_call 13; exact quiet_dr (IS.out _)))
    go_wp2
    go_ret
    exact ⟨rfl, HC.out.drewN _, (Mv.refl _ _).drewN _⟩
set_option maxRecDepth 100000 in
set_option maxHeartbeats 4000000 in
theorem give_c (B m k : Nat) (long off : Int) (p : Rs) (V : World) (hk : k < m) (h : Co B m long off p V) :
    Calls Try.prog 19 #[.pointer (some ⟨B + 1, 0, none⟩), .int .i64 k] V (fun e W' => e = .returned (.int .i64 (giveR p k).1) ∧ Co B m long off (giveR p k).2 W' ∧ Mv B V W') := by
  obtain ⟨o, hoo⟩ : ∃ o, o = p.holder := ⟨_, rfl⟩
  have c3 : V.cell? ⟨B + 1, 3, none⟩ = some (.int .i64 o) := by rw [hoo]; exact h.sv.cell 3
  have f3 : V.frozen? ⟨B + 1, 3, none⟩ = false := h.sv.free 3
  have i1 : (k : Int) < (m : Int) := by omega
  have HC := Lib.hid h
  by_cases hc : p.holder ≠ (k : Int)
  · rw [show giveR p k = (3, p) by unfold giveR; rw [if_pos hc]]
    have e1 : decide (o = (k : Int)) = false := decide_eq_false (by rw [hoo]; exact hc)
    have e2 : (o == (k : Int)) = false := by rw [hoo]; simpa using hc
    have e3 : (o != (k : Int)) = true := by rw [hoo]; simpa using hc
    clear h hoo hc
    go_enter Try.func19, Try.ntmps19
    go_wp2
    go_ret
    exact ⟨rfl, HC.out, Mv.refl _ _⟩
  · rw [show giveR p k = (0, { p with holder := -1, has := updN p.has k false }) by unfold giveR; rw [if_neg hc]]
    have hq : p.holder = (k : Int) := by
      rcases Classical.em (p.holder = (k : Int)) with e | e
      · exact e
      · exact absurd e hc
    obtain rfl : o = (k : Int) := hoo.trans hq
    obtain ⟨w1, hw1⟩ : ∃ w1, w1 = V.setCell ⟨B + 1, 3, none⟩ (.int .i64 (-1)) := ⟨_, rfl⟩
    have H1 := h.holder1 (-1)
    have M1 := (Mv.refl B V).set (r := B + 1) (.inr (.inl rfl)) 3 (.int .i64 (-1))
    rw [← hw1] at H1 M1
    have c5 : w1.cell? ⟨B + 1, 5, none⟩ = some (.slice (some ⟨B, 0, none⟩) m m) := H1.sv.cell 5
    have n2 := (H1.nd k hk).2.2
    have g2 := H1.fr (k * 3 + 2)
    have C1 := Lib.hid (H1.has1 hk false)
    have M2 := Lib.hid (M1.set (r := B) (.inl rfl) (k * 3 + 2) (.bool false))
    rw [hw1] at c5 n2 g2 C1 M2
    clear h hoo hc hq H1 M1 hw1
    go_enter Try.func19, Try.ntmps19
    go_wp2
    go_ret
    exact ⟨rfl, C1.out, M2.out⟩
end Go.Proofs.Yteneglbafngejaa.LeP
