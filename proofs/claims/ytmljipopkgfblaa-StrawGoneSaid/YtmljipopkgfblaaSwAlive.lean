/-
  The check of a few known values that the statements about package straw begin with: it answers true.
-/
import Derived.Test.YtmljipopkgfblaaSwFns
namespace Go.Proofs.Ytmljipopkgfblaa.Straw
set_option linter.unusedVariables false
set_option linter.unusedSimpArgs false
open Go.RowKit Mem

def l8 : List It := [(3, 1), (4, 0), (7, 2)]
theorem ids8 : ids 5 l8 = [7, 3] := by
  have h : srt 5 (pos l8) = [(7, 2), (3, 1)] := srt_eq (by unfold Once; decide) (by unfold Sorted; decide +kernel) (by decide)
  unfold ids order
  rw [h]; rfl
theorem wrong8 : wrongE l8 = 0 := by decide +kernel
theorem some8a : someE 5 l8 2 = 0 ∧ someL 5 l8 2 = [7, 3] := by
  have h : someE 5 l8 2 = 0 := by unfold someE; rw [wrong8, ids8]; decide
  refine ⟨h, ?_⟩
  unfold someL
  rw [h, if_pos rfl, ids8]; rfl
theorem some8b : someE 5 l8 3 = 8 ∧ someL 5 l8 3 = [] := by
  have h : someE 5 l8 3 = 8 := by unfold someE; rw [wrong8, ids8]; decide
  refine ⟨h, ?_⟩
  unfold someL
  rw [h]; rfl
theorem choose8 : chooseV 5 l8 = 7 ∧ chooseE 5 l8 = 0 := by
  unfold chooseV chooseE
  rw [wrong8, ids8]
  exact ⟨rfl, rfl⟩
theorem fits8 : Fits l8 := fun a ha => by
  simp [l8] at ha
  rcases ha with rfl | rfl | rfl <;> decide
theorem wrds8 (W : World) : WRds (W.alloc (.cells #[.int .i64 3, .int .i64 1, .int .i64 4, .int .i64 0, .int .i64 7, .int .i64 2] 38)) (some ⟨W.heap.size, 0, none⟩) l8 := by
  have kn := Known.made W 38 #[.int .i64 3, .int .i64 1, .int .i64 4, .int .i64 0, .int .i64 7, .int .i64 2]
  intro k e hk
  rcases k with _ | _ | _ | k
  · simp [l8] at hk; subst hk; exact ⟨_, 0, rfl, kn.lt, kn.cell 0, kn.cell 1⟩
  · simp [l8] at hk; subst hk; exact ⟨_, 0, rfl, kn.lt, kn.cell 2, kn.cell 3⟩
  · simp [l8] at hk; subst hk; exact ⟨_, 0, rfl, kn.lt, kn.cell 4, kn.cell 5⟩
  · simp [l8] at hk
theorem key5 : ((5 : UInt64).toNat : Int) = 5 := by decide
theorem someA (g : Nat) (W : World) (h : WRds W (some ⟨g, 0, none⟩) l8) : Calls Try.prog 9 #[.int .u64 5, .slice (some ⟨g, 0, none⟩) 3 3, .int .i64 2] W (NodesErr [7, 3] 0 W) := by
  have := some_spec 5 (some ⟨g, 0, none⟩) l8 3 3 2 W rfl (by decide) (by decide) h fits8
  rw [some8a.1, some8a.2, key5] at this
  exact this
theorem someB (g : Nat) (W : World) (h : WRds W (some ⟨g, 0, none⟩) l8) : Calls Try.prog 9 #[.int .u64 5, .slice (some ⟨g, 0, none⟩) 3 3, .int .i64 3] W (NodesErr [] 8 W) := by
  have := some_spec 5 (some ⟨g, 0, none⟩) l8 3 3 3 W rfl (by decide) (by decide) h fits8
  rw [some8b.1, some8b.2, key5] at this
  exact this
theorem chooseA (g : Nat) (W : World) (h : WRds W (some ⟨g, 0, none⟩) l8) : Calls Try.prog 8 #[.int .u64 5, .slice (some ⟨g, 0, none⟩) 3 3] W (Gave (.tuple #[.int .i64 7, .int .i64 0]) W) := by
  have := choose_c 5 (some ⟨g, 0, none⟩) l8 3 3 W rfl (by decide) (by decide) h
  rw [choose8.1, choose8.2, key5] at this
  exact this
theorem drawA (W : World) : Calls Try.prog 11 #[.int .u64 5, .int .i64 3] W fun e w' => e = .returned (.int .i64 3639) ∧ w' = W := by
  have := draw_p 5 3 W
  rw [show draw 5 3 = 3639 by decide +kernel, key5] at this
  exact this
set_option maxRecDepth 100000 in
set_option maxHeartbeats 4000000 in
theorem alive_c (W : World) : Calls Try.prog 16 #[] W (Law.Yes W) := by
  have T0 := Lib.hid (wrds8 W)
  have B0 := Lib.hid ((Below.refl _ W).alloc (Nat.le_refl _) (.cells #[.int .i64 3, .int .i64 1, .int .i64 4, .int .i64 0, .int .i64 7, .int .i64 2] 38))
  have DR := Lib.hid (fun V => drawA V)
  go_enter Try.func16, Try.ntmps16
  go_wp2_with fail
  refine (someA _ _ T0.out).mono ?_
  rintro e w2 ⟨A2, c2, rfl, hr, hb⟩
  have T2 := Lib.hid (T0.out.below hb)
  have B2 := Lib.hid (B0.out.trans (hb.mono B0.out.size))
  have Z2 := Lib.hid hr
  clear hr hb T0 B0
  go_wp2_with fail
  refine (someB _ _ T2.out).mono ?_
  rintro e w3 ⟨A3, c3, rfl, hr, hb⟩
  have T3 := Lib.hid (T2.out.below hb)
  have B3 := Lib.hid (B2.out.trans (hb.mono B2.out.size))
  have Z3 := Lib.hid (Z2.out.below hb)
  clear hr hb T2 B2 Z2
  go_wp2_with fail
  refine (chooseA _ _ T3.out).mono ?_
  rintro e w4 ⟨rfl, hb⟩
  have B4 := Lib.hid (B3.out.trans (hb.mono B3.out.size))
  have Z4 := Lib.hid (Z3.out.below hb)
  clear hb T3 B3 Z3
  obtain ⟨b, o, rfl, _, c0⟩ := Z4.out 0 (.int .i64 7) rfl
  obtain ⟨b', o', e', _, c1⟩ := Z4.out 1 (.int .i64 3) rfl
  injection e' with e'
  injection e' with e1 e2
  subst e1 e2
  simp at c0 c1
  go_wp2
  go_quiet ((go_at_call 11; exact Calls.quiet_of_same (DR.out _)))
  go_wp2
  go_ret
  exact ⟨rfl, below_drewN B4.out _⟩
end Go.Proofs.Ytmljipopkgfblaa.Straw
