/-
  What the laws on maps try first.
-/
import Derived.Test.YtmijjaihedbjgaaMpG
namespace Go.Proofs.Ytmijjaihedbjgaa.Mps
set_option linter.unusedVariables false
set_option linter.unusedSimpArgs false
open Go.RowKit Mem

theorem row3 (w : World) (a b c : Int) : Reads (w.alloc (.cells #[.int .i64 a, .int .i64 b, .int .i64 c] 3)) (some ⟨w.heap.size, 0, none⟩) (ints [a, b, c]) := fun k v hv => by
  have kn := Known.made w 3 #[.int .i64 a, .int .i64 b, .int .i64 c]
  refine ⟨w.heap.size, 0, rfl, kn.lt, ?_⟩
  rcases k with _ | _ | _ | k
  · simp at hv; subst hv; exact kn.cell 0
  · simp at hv; subst hv; exact kn.cell 1
  · simp at hv; subst hv; exact kn.cell 2
  · simp at hv
theorem says_d0 : SaysS (dfE (4, [1, 2, 3]) (5, [1, 7, 3])) (dfS (4, [1, 2, 3]) (5, [1, 7, 3])) 4 [(1, 2, 7)] 1 0 := ⟨by decide, by decide, rfl⟩
theorem says_a0 : Says (apE (4, [1, 2, 3]) (4, [(1, 2, 7)])) (apM (4, [1, 2, 3]) (4, [(1, 2, 7)])) 5 [1, 7, 3] 3 0 := ⟨by decide, by decide, rfl⟩
theorem eql_ch (a b c : Int) (w : World) : (binOp .eql 33 (.agg #[.int .i64 a, .int .i64 b, .int .i64 c]) (.agg #[.int .i64 a, .int .i64 b, .int .i64 c])).run Try.prog w = .ok (.bool true) w := by
  go_simp
set_option maxRecDepth 100000 in
set_option maxHeartbeats 8000000 in
theorem alive_c (W : World) : Calls Try.prog 18 #[] W (Gave (.bool true) W) := by
  have D := Lib.hid (fun V A c B cb h1 h2 => diff_c 4 A [1, 2, 3] 3 c 5 B [1, 7, 3] 3 cb V rfl (by decide) h1 rfl (by decide) h2 4 [(1, 2, 7)] 1 0 says_d0)
  have P := Lib.hid (fun V A c C ca h1 h2 => apply_c 4 A [1, 2, 3] 3 c 4 C [(1, 2, 7)] 1 ca V rfl (by decide) h1 rfl (by decide) h2 5 [1, 7, 3] 3 0 says_a0)
  have R1 := Lib.hid ((row3 W 1 2 3).alloc (.cells #[.int .i64 1, .int .i64 7, .int .i64 3] 3))
  have hR2 := row3 (W.alloc (.cells #[.int .i64 1, .int .i64 2, .int .i64 3] 3)) 1 7 3
  simp only [World.size_alloc] at hR2
  have R2 := Lib.hid hR2
  clear hR2
  have B0 := Lib.hid (show Below W.heap.size W ((W.alloc (.cells #[.int .i64 1, .int .i64 2, .int .i64 3] 3)).alloc (.cells #[.int .i64 1, .int .i64 7, .int .i64 3] 3)) from ((Below.refl _ _).alloc (Nat.le_refl _) _).alloc (by simp) _)
  have eq := fun w => eql_ch 1 2 7 w
  go_enter Try.func18, Try.ntmps18
  go_wp2_with fail
  refine (D.out _ _ 3 _ 3 R1.out R2.out).mono ?_
  rintro e w1 ⟨A1, c1, rfl, hr, hb, -⟩
  have B1 := Lib.hid (B0.out.trans (hb.mono B0.out.size))
  have H1 := Lib.hid hr
  obtain ⟨s0, s1⟩ := boxS w1 (.int .i64 4) (.slice A1 1 c1)
  obtain ⟨W2, hW2⟩ : ∃ W2, W2 = w1.alloc (.cells #[.int .i64 4, .slice A1 1 c1] 27) := ⟨_, rfl⟩
  have z0 := box_old (.cells #[.int .i64 1, .int .i64 2, .int .i64 3] 3) s0
  have z1 := box_old (.cells #[.int .i64 1, .int .i64 2, .int .i64 3] 3) s1
  have B2 := Lib.hid (B1.out.alloc B1.out.size (.cells #[.int .i64 4, .slice A1 1 c1] 27))
  have hR3 := row3 (w1.alloc (.cells #[.int .i64 4, .slice A1 1 c1] 27)) 1 2 3
  simp only [World.size_alloc] at hR3
  have R3 := Lib.hid hR3
  clear hR3
  have B3 := Lib.hid (B2.out.alloc B2.out.size (.cells #[.int .i64 1, .int .i64 2, .int .i64 3] 3))
  have H3 := Lib.hid ((H1.out.below ((Below.refl _ _).alloc (Nat.le_refl _) (.cells #[.int .i64 4, .slice A1 1 c1] 27))).below ((Below.refl _ _).alloc (Nat.le_refl _) (.cells #[.int .i64 1, .int .i64 2, .int .i64 3] 3)))
  clear hb hr R1 R2 B0 hW2
  go_wp2_with fail
  refine (P.out _ _ 3 _ _ R3.out H3.out).mono ?_
  rintro e w2 ⟨A2, c2, rfl, hr, hb, -⟩
  have B4 := Lib.hid (B3.out.trans (hb.mono B3.out.size))
  have H4 := Lib.hid hr
  have y0 := (hb.cell (World.block_lt_of_cell? _ _ z0)).trans z0
  have y1 := (hb.cell (World.block_lt_of_cell? _ _ z1)).trans z1
  obtain ⟨b, o, rfl, _, x0, x1, x2⟩ := (H3.out.below hb) 0 _ rfl
  simp only [Nat.zero_mul, Nat.add_zero] at x0 x1 x2
  obtain ⟨m0, m1⟩ := boxM w2 (.int .i64 5) (.slice A2 3 c2)
  have u0 := box_old (.cells #[.int .i64 5, .slice A2 3 c2] 24) y0
  have u1 := box_old (.cells #[.int .i64 5, .slice A2 3 c2] 24) y1
  have v0 := box_old (.cells #[.int .i64 5, .slice A2 3 c2] 24) x0
  have v1 := box_old (.cells #[.int .i64 5, .slice A2 3 c2] 24) x1
  have v2 := box_old (.cells #[.int .i64 5, .slice A2 3 c2] 24) x2
  have B5 := Lib.hid (B4.out.alloc B4.out.size (.cells #[.int .i64 5, .slice A2 3 c2] 24))
  have R5 := Lib.hid (H4.out.alloc (.cells #[.int .i64 5, .slice A2 3 c2] 24))
  have B6 := Lib.hid (B5.out.alloc B5.out.size (.cells #[.int .i64 1, .int .i64 7, .int .i64 3] 3))
  have R6 := Lib.hid (R5.out.alloc (.cells #[.int .i64 1, .int .i64 7, .int .i64 3] 3))
  have hR7 := row3 (w2.alloc (.cells #[.int .i64 5, .slice A2 3 c2] 24)) 1 7 3
  simp only [World.size_alloc] at hR7
  have R7 := Lib.hid hR7
  clear hR7
  clear hb hr z0 z1 s0 s1 B1 B2 B3 R3 H1 H3 y0 y1 x0 x1 x2
  go_wp2_with fail
  refine (equalZ_c A2 _ [1, 7, 3] [1, 7, 3] 3 3 c2 3 _ rfl rfl (by decide) (by decide) R6.out R7.out).mono ?_
  rintro e w3 ⟨rfl, hb⟩
  have B7 := Lib.hid (B6.out.trans (hb.mono B6.out.size))
  clear hb
  go_wp2
  go_ret
  exact ⟨rfl, B7.out⟩
end Go.Proofs.Ytmijjaihedbjgaa.Mps
