/-
  Package lease: ask.
-/
import Derived.Test.YteneglbafngejaaLePc
namespace Go.Proofs.Yteneglbafngejaa.LeP
set_option linter.unusedVariables false
set_option linter.unusedSimpArgs false
open Go.RowKit Mem Gt Le

set_option maxRecDepth 100000 in
set_option maxHeartbeats 8000000 in
theorem ask_c (B m k : Nat) (long off : Int) (p : Rs) (V : World) (hk : k < m) (hbd : Bd off p) (ho : 0 ≤ off ∧ off ≤ 1048576) (hlo : 1 ≤ long ∧ long ≤ 1048576) (h : Co B m long off p V) :
    Calls Try.prog 18 #[.pointer (some ⟨B + 1, 0, none⟩), .int .i64 k] V (fun e W' => e = .returned (.int .i64 (askR long off p k).1) ∧ Co B m long off (askR long off p k).2 W' ∧ Mv B V W') := by
  obtain ⟨t, ht⟩ : ∃ t, t = p.now := ⟨_, rfl⟩
  obtain ⟨d, hd⟩ : ∃ d, d = p.holder := ⟨_, rfl⟩
  obtain ⟨x, hx⟩ : ∃ x, x = p.exp := ⟨_, rfl⟩
  obtain ⟨o, hoo⟩ : ∃ o, o = p.offs k := ⟨_, rfl⟩
  have HC := Lib.hid h
  have HB := Lib.hid hbd
  have HO := Lib.hid ho
  have HL := Lib.hid hlo
  have HT := Lib.hid ht
  have HOO := Lib.hid hoo
  have c2 : V.cell? ⟨B + 1, 2, none⟩ = some (.int .i64 t) := by rw [ht]; exact h.sv.cell 2
  have c3 : V.cell? ⟨B + 1, 3, none⟩ = some (.int .i64 d) := by rw [hd]; exact h.sv.cell 3
  have c4 : V.cell? ⟨B + 1, 4, none⟩ = some (.int .i64 x) := by rw [hx]; exact h.sv.cell 4
  obtain ⟨r, hr⟩ : ∃ r, decide (d ≠ -1 ∧ d ≠ (k : Int) ∧ t < x) = r := ⟨_, rfl⟩
  have EA := Lib.hid (show askR long off p k = if r = true then (6, p) else (0, { p with holder := (k : Int), exp := t + long + 2 * off, has := updN p.has k true, till := updN p.till k (t + o + long) }) by
    unfold askR
    rw [← ht, ← hd, ← hx, ← hoo, ← hr]
    simp only [decide_eq_true_eq])
  have HR := Lib.hid hr
  clear h hbd ho hlo ht hd hx hoo hr
  go_enter Try.func18, Try.ntmps18
  go_upto_region 1 with fail
  go_cut [28] (fun v wx => v = .bool r ∧ ∃ j, wx = V.drewN j)
  case first =>
    by_cases h1 : d = -1
    · obtain rfl : false = r := by rw [← HR.out]; simp [h1]
      subst h1
      clear HR
      go_quiet (fail)
      go_wp2
      go_meet
      exact ⟨rfl, _, rfl⟩
    · have e1 : (d != -1) = true := by simpa using h1
      have e1' : (d == -1) = false := by simpa using h1
      by_cases h2 : d = (k : Int)
      · obtain rfl : false = r := by rw [← HR.out]; simp [h2]
        subst h2
        clear HR
        go_quiet (fail)
        go_wp2
        go_meet
        exact ⟨rfl, _, rfl⟩
      · have e2 : (d != (k : Int)) = true := by simpa using h2
        have e2' : (d == (k : Int)) = false := by simpa using h2
        have e3 : decide (t < x) = r := by rw [← HR.out]; simp [h1, h2]
        clear HR
        go_quiet (fail)
        go_wp2
        go_meet
        exact ⟨rfl, _, rfl⟩
  case rest =>
    obtain ⟨rfl, j, rfl⟩ := hcut
    clear c2 c3 c4 HR
    cases r with
    | true =>
      go_wp2
      go_ret
      rw [EA.out]
      exact ⟨rfl, HC.out.drewN j, (Mv.refl _ _).drewN j⟩
    | false =>
      obtain ⟨w0, hw0⟩ : ∃ w0, w0 = V.drewN j := ⟨_, rfl⟩
      have H0 : Co B m long off p w0 := by rw [hw0]; exact HC.out.drewN j
      have M0 : Mv B V w0 := by rw [hw0]; exact (Mv.refl B V).drewN j
      rw [← hw0]
      clear hw0
      have c3 : w0.cell? ⟨B + 1, 3, none⟩ = some (.int .i64 p.holder) := H0.sv.cell 3
      have f3 : w0.frozen? ⟨B + 1, 3, none⟩ = false := H0.sv.free 3
      have C1 := H0.holder1 (k : Int)
      have M1 := M0.set (r := B + 1) (.inr (.inl rfl)) 3 (.int .i64 (k : Int))
      go_upto_region 4 with fail
      obtain ⟨w1, hw1⟩ : ∃ w1, w1 = w0.setCell ⟨B + 1, 3, none⟩ (.int .i64 (k : Int)) := ⟨_, rfl⟩
      rw [← hw1] at C1 M1
      rw [← hw1]
      clear hw1 c3 f3 H0 M0
      have c0 : w1.cell? ⟨B + 1, 0, none⟩ = some (.int .i64 long) := C1.sv.cell 0
      have c1 : w1.cell? ⟨B + 1, 1, none⟩ = some (.int .i64 off) := C1.sv.cell 1
      have c2 : w1.cell? ⟨B + 1, 2, none⟩ = some (.int .i64 t) := by rw [HT.out]; exact C1.sv.cell 2
      have c4 : w1.cell? ⟨B + 1, 4, none⟩ = some (.int .i64 p.exp) := C1.sv.cell 4
      have f4 : w1.frozen? ⟨B + 1, 4, none⟩ = false := C1.sv.free 4
      have a1 : IntKind.i64.wrap (t + long) = t + long := IntWalk.i64_in _ (by have := HB.out.t0; have := HL.out; rw [HT.out]; omega)
      have a2 : IntKind.i64.wrap (2 * off) = 2 * off := IntWalk.i64_in _ (by have := HO.out; omega)
      have a3 : IntKind.i64.wrap (t + long + 2 * off) = t + long + 2 * off := IntWalk.i64_in _ (by have := HB.out.t0; have := HL.out; have := HO.out; rw [HT.out]; omega)
      have C2 := (C1.drewN 1).exp1 (t + long + 2 * off)
      have M2 := (M1.drewN 1).set (r := B + 1) (.inr (.inl rfl)) 4 (.int .i64 (t + long + 2 * off))
      refine Mem.region_tail 18 (by kernel_rfl) (by kernel_rfl) ?_
      simp only [List.take_succ_cons, List.take_zero, List.drop_succ_cons, List.drop_zero]
      repeat still_step
      refine wpStill_nil ?_
      go_upto_region 5 with fail
      obtain ⟨w2, hw2⟩ : ∃ w2, w2 = (w1.setCell ⟨B + 1, 4, none⟩ (.int .i64 (t + long + 2 * off))).drew := ⟨_, rfl⟩
      have C2' : Co B m long off { p with holder := (k : Int), exp := t + long + 2 * off } w2 := by rw [hw2]; exact C2
      have M2' : Mv B V w2 := by rw [hw2]; exact M2
      rw [← hw2]
      clear hw2 C2 M2 c0 c1 c2 c4 f4 a1 a2 a3 C1 M1
      have c5 : w2.cell? ⟨B + 1, 5, none⟩ = some (.slice (some ⟨B, 0, none⟩) m m) := C2'.sv.cell 5
      have n2 := (C2'.nd k hk).2.2
      have g2 := C2'.fr (k * 3 + 2)
      have i1 : (k : Int) < (m : Int) := by omega
      have C3 := C2'.has1 hk true
      have M3 := M2'.set (r := B) (.inl rfl) (k * 3 + 2) (.bool true)
      simp only at n2
      go_upto_region 6 with fail
      obtain ⟨w3, hw3⟩ : ∃ w3, w3 = w2.setCell ⟨B, k * 3 + 2, none⟩ (.bool true) := ⟨_, rfl⟩
      rw [← hw3] at C3 M3
      rw [← hw3]
      clear hw3 C2' M2' c5 n2 g2
      have CK := Lib.hid (fun q => show Calls Try.prog 21 #[.pointer (some ⟨B + 1, 0, none⟩), .int .i64 k] (w3.drewN q) (fun e W' => e = .returned (.int .i64 (t + o)) ∧ ∃ q', W' = (w3.drewN q).drewN q') by
        rw [HT.out, HOO.out]; exact clock_c B m k long off { p with holder := (k : Int), exp := t + long + 2 * off, has := updN p.has k true } (w3.drewN q) hk ⟨HB.out.t0, HB.out.of⟩ HO.out (C3.drewN q))
      have CK1 := Lib.hid (show Calls Try.prog 21 #[.pointer (some ⟨B + 1, 0, none⟩), .int .i64 k] w3.drew (fun e W' => e = .returned (.int .i64 (t + o)) ∧ ∃ q', W' = w3.drew.drewN q') from CK.out 1)
      have c5 : w3.cell? ⟨B + 1, 5, none⟩ = some (.slice (some ⟨B, 0, none⟩) m m) := C3.sv.cell 5
      have c0 : ∀ q, (w3.drew.drewN q).cell? ⟨B + 1, 0, none⟩ = some (.int .i64 long) := fun q => C3.sv.cell 0
      have c0' : w3.cell? ⟨B + 1, 0, none⟩ = some (.int .i64 long) := C3.sv.cell 0
      have c5' : ∀ q, (w3.drew.drewN q).cell? ⟨B + 1, 5, none⟩ = some (.slice (some ⟨B, 0, none⟩) m m) := fun q => C3.sv.cell 5
      have n1 : ∀ q, (w3.drew.drewN q).cell? ⟨B, k * 3 + 1, none⟩ = some (.int .i64 (p.till k)) := fun q => (C3.nd k hk).2.1
      have g1 : ∀ q, (w3.drew.drewN q).frozen? ⟨B, k * 3 + 1, none⟩ = false := fun q => C3.fr _
      have n1' : w3.cell? ⟨B, k * 3 + 1, none⟩ = some (.int .i64 (p.till k)) := (C3.nd k hk).2.1
      have g1' : w3.frozen? ⟨B, k * 3 + 1, none⟩ = false := C3.fr _
      have a4 : IntKind.i64.wrap (t + o + long) = t + o + long := IntWalk.i64_in _ (by have := HB.out.t0; have := HB.out.of k; have := HL.out; have := HO.out; rw [HT.out, HOO.out]; omega)
      have C4 := Lib.hid (fun q => show Co B m long off { p with holder := (k : Int), exp := t + long + 2 * off, has := updN p.has k true, till := updN p.till k (t + o + long) } ((w3.drewN q).setCell ⟨B, k * 3 + 1, none⟩ (.int .i64 (t + o + long))) from (C3.drewN q).till1 hk _)
      have M4 := Lib.hid (fun q => show Mv B V ((w3.drewN q).setCell ⟨B, k * 3 + 1, none⟩ (.int .i64 (t + o + long))) from (M3.drewN q).set (r := B) (.inl rfl) _ _)
      clear C3 M3
      go_region_with (go_at_call 21; refine CK1.out.mono ?_; rintro e w9 ⟨rfl, q, rfl⟩; replace n1 := n1 q; replace g1 := g1 q; replace c0 := c0 q; replace c5' := c5' q)
      all_goals
        go_wp2
        go_ret
        rw [EA.out, if_neg (by decide)]
        exact ⟨rfl, C4.out _, M4.out _⟩
end Go.Proofs.Yteneglbafngejaa.LeP
