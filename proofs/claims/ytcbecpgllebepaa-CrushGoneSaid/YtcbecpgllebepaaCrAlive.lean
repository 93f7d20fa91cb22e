/-
  What the laws on hosts try first: spots that are there.
-/
import Derived.Test.YtcbecpgllebepaaCrSpec
import Derived.BigQuiet
namespace Go.Proofs.Ytcbecpgllebepaa.Crush
set_option linter.unusedVariables false
set_option linter.unusedSimpArgs false
open Go.RowKit Mem Straw

/-- The memory of the three hosts. -/
def Laid0 (W V : World) : Prop := Below W.heap.size W V ∧ HRds V (some ⟨W.heap.size + 1 + 1, 0, none⟩) hs0
theorem laid0 (W : World) : Laid0 W (((W.alloc (.cells #[.int .i64 10, .int .i64 1] 47)).alloc (.cells #[.int .i64 20, .int .i64 1, .int .i64 21, .int .i64 0] 47)).alloc
    (.cells #[.int .i64 1, .slice (some ⟨W.heap.size, 0, none⟩) 1 1, .int .i64 2, .slice (some ⟨W.heap.size + 1, 0, none⟩) 2 2, .int .i64 3, .slice none 0 0] 43)) := by
  have b1 : Below W.heap.size W (W.alloc (.cells #[.int .i64 10, .int .i64 1] 47)) := (Below.refl _ _).alloc (Nat.le_refl _) _
  have b2 := b1.alloc (by simp) (.cells #[.int .i64 20, .int .i64 1, .int .i64 21, .int .i64 0] 47)
  have k1 := ((Known.made W 47 #[.int .i64 10, .int .i64 1]).alloc (.cells #[.int .i64 20, .int .i64 1, .int .i64 21, .int .i64 0] 47)).alloc
    (.cells #[.int .i64 1, .slice (some ⟨W.heap.size, 0, none⟩) 1 1, .int .i64 2, .slice (some ⟨W.heap.size + 1, 0, none⟩) 2 2, .int .i64 3, .slice none 0 0] 43)
  have k2 := (Known.made (W.alloc (.cells #[.int .i64 10, .int .i64 1] 47)) 47 #[.int .i64 20, .int .i64 1, .int .i64 21, .int .i64 0]).alloc
    (.cells #[.int .i64 1, .slice (some ⟨W.heap.size, 0, none⟩) 1 1, .int .i64 2, .slice (some ⟨W.heap.size + 1, 0, none⟩) 2 2, .int .i64 3, .slice none 0 0] 43)
  have k3 := Known.made ((W.alloc (.cells #[.int .i64 10, .int .i64 1] 47)).alloc (.cells #[.int .i64 20, .int .i64 1, .int .i64 21, .int .i64 0] 47)) 43
    #[.int .i64 1, .slice (some ⟨W.heap.size, 0, none⟩) 1 1, .int .i64 2, .slice (some ⟨W.heap.size + 1, 0, none⟩) 2 2, .int .i64 3, .slice none 0 0]
  simp only [World.size_alloc] at k2 k3
  have l1 := k1.lt
  have l2 := k2.lt
  have l3 := k3.lt
  refine ⟨b2.alloc (by simp; omega) _, fun k h hk => ?_⟩
  rcases k with _ | _ | _ | k
  · simp [hs0] at hk
    subst hk
    refine ⟨_, 0, _, rfl, l3, k3.cell 0, k3.cell 1, some ⟨W.heap.size, 0, none⟩, 1, 1, rfl, rfl, Nat.le_refl _, by omega, fun j a ha => ?_⟩
    rcases j with _ | j
    · simp at ha; subst ha
      exact ⟨_, 0, rfl, l1, k1.cell 0, k1.cell 1⟩
    · simp at ha
  · simp [hs0] at hk
    subst hk
    refine ⟨_, 0, _, rfl, l3, k3.cell 2, k3.cell 3, some ⟨W.heap.size + 1, 0, none⟩, 2, 2, rfl, rfl, Nat.le_refl _, by omega, fun j a ha => ?_⟩
    rcases j with _ | _ | j
    · simp at ha; subst ha
      exact ⟨_, 0, rfl, l2, k2.cell 0, k2.cell 1⟩
    · simp at ha; subst ha
      exact ⟨_, 0, rfl, l2, k2.cell 2, k2.cell 3⟩
    · simp at ha
  · simp [hs0] at hk
    subst hk
    exact ⟨_, 0, _, rfl, l3, k3.cell 4, k3.cell 5, none, 0, 0, rfl, rfl, Nat.le_refl _, by omega, WRds.nil⟩
  · simp [hs0] at hk
set_option maxRecDepth 100000 in
set_option maxHeartbeats 8000000 in
theorem alive_core (s t : It) (W : World) (h1 : s.1 + t.1 = 3) (h2 : s.2 + t.2 = 30)
    (P2 : Hid (∀ (V : World), HRds V (some ⟨W.heap.size + 1 + 1, 0, none⟩) hs0 → Calls Try.prog 9 #[.int .u64 7, .slice (some ⟨W.heap.size + 1 + 1, 0, none⟩) 3 3, .int .i64 2] V fun e W' => ∃ A' c, e = .returned (.tuple #[.slice A' 2 c, .int .i64 0]) ∧ 2 ≤ c ∧ WRds W' A' [s, t] ∧ Below V.heap.size V W'))
    (P3 : Hid (∀ (V : World), HRds V (some ⟨W.heap.size + 1 + 1, 0, none⟩) hs0 → Calls Try.prog 9 #[.int .u64 7, .slice (some ⟨W.heap.size + 1 + 1, 0, none⟩) 3 3, .int .i64 3] V fun e W' => ∃ A' c, e = .returned (.tuple #[.slice A' 0 c, .int .i64 8]) ∧ 0 ≤ c ∧ WRds W' A' [] ∧ Below V.heap.size V W'))
    (M : Hid (∀ (V : World), HRds V (some ⟨W.heap.size + 1 + 1, 0, none⟩) hs0 → Calls Try.prog 14 #[.slice (some ⟨V.heap.size, 0, none⟩) 1 1, .slice (some ⟨W.heap.size + 1 + 1, 0, none⟩) 3 3, .slice (some ⟨W.heap.size + 1 + 1, 0, none⟩) 3 3, .int .i64 2] (V.alloc (.cells #[.int .u64 7] 22)) fun e W' => e = .returned (.tuple #[.int .i64 0, .int .i64 0]) ∧ Below V.heap.size V W')) :
    Calls Try.prog 16 #[] W (Gave (.bool true) W) := by
  have L0 := Lib.hid (laid0 W)
  go_enter Try.func16, Try.ntmps16
  go_wp2_with fail
  refine (P2.out _ L0.out.2).mono ?_
  rintro e w2 ⟨A2, c2, rfl, hc2, hr2, hb2⟩
  have R2 := Lib.hid hr2
  have H2 := Lib.hid (L0.out.2.below hb2)
  have B2 := Lib.hid (L0.out.1.trans (hb2.mono L0.out.1.size))
  clear hr2 hb2 L0 P2
  go_wp2_with fail
  refine (P3.out _ H2.out).mono ?_
  rintro e w3 ⟨A3, c3, rfl, hc3, -, hb3⟩
  have R3 := Lib.hid (R2.out.below hb3)
  have H3 := Lib.hid (H2.out.below hb3)
  have B3 := Lib.hid (B2.out.trans (hb3.mono B2.out.size))
  clear hb3 R2 H2 B2 P3
  go_wp2_with fail
  refine (M.out _ H3.out).mono ?_
  rintro e w4 ⟨rfl, hb4⟩
  have R4 := R3.out.below hb4
  have B4 := Lib.hid (B3.out.trans (hb4.mono B3.out.size))
  clear hb4 R3 H3 B3 M
  obtain ⟨b, o, rfl, _, x0, x1⟩ := R4 0 s rfl
  obtain ⟨b', o', e', _, y0, y1⟩ := R4 1 t rfl
  injection e' with e'
  injection e' with e1 e2
  subst e1 e2
  obtain ⟨s0, s1⟩ := s
  obtain ⟨t0, t1⟩ := t
  have h1 : s0 + t0 = 3 := h1
  have h2 : s1 + t1 = 30 := h2
  have w1 : IntKind.i64.wrap (s0 + t0) = 3 := by rw [h1]; decide
  have w2 : IntKind.i64.wrap (s1 + t1) = 30 := by rw [h2]; decide
  simp only [Nat.zero_mul, Nat.one_mul, Nat.add_zero] at x0 x1 y0 y1
  clear R4
  go_wp2
  go_quiet (fail)
  go_wp2
  go_ret
  exact ⟨rfl, below_drewN B4.out _⟩
theorem alive_c (hP : PlaceSpec) (hM : MovedSpec) (W : World) : Calls Try.prog 16 #[] W (Gave (.bool true) W) := by
  obtain ⟨s, t, hl, h1, h2⟩ := spots0 7
  have p0 := pl0 7
  have p3 := pl3 7
  have lz : plL 7 hs0 3 = [] := by unfold plL; rw [p3]; rfl
  obtain ⟨m1, m2⟩ := mv_one (k := 7) p0 p0
  rw [newIn_self] at m2
  refine alive_core s t W h1 h2 (fun V h => place_named hP 7 _ hs0 3 3 2 V rfl (by decide) (by decide) h fits0 [s, t] 2 0 hl rfl p0) (fun V h => place_named hP 7 _ hs0 3 3 3 V rfl (by decide) (by decide) h fits0 [] 0 8 lz rfl p3) (fun V h => ?_)
  have h0 : Below V.heap.size V (V.alloc (.cells #[.int .u64 7] 22)) := (Below.refl _ _).alloc (Nat.le_refl _) _
  have hr : Reads (V.alloc (.cells #[.int .u64 7] 22)) (some ⟨V.heap.size, 0, none⟩) ([7].map word64) := fun k v hk => by
    rcases k with _ | k
    · simp at hk; subst hk
      exact ⟨V.heap.size, 0, rfl, by simp, (Known.made V 22 #[.int .u64 7]).cell 0⟩
    · simp at hk
  have hm := hM _ [7] 1 1 _ hs0 3 3 _ hs0 3 3 2 _ rfl (by decide) hr rfl (by decide) (by decide) (h.below h0) fits0 rfl (by decide) (by decide) (h.below h0) fits0
  rw [m1, m2] at hm
  refine hm.mono ?_
  rintro e w ⟨rfl, hb⟩
  exact ⟨rfl, h0.trans (hb.mono h0.size)⟩
end Go.Proofs.Ytcbecpgllebepaa.Crush
