/-
  The check of a few known values that the statements about package ring begin with: it answers true.
-/
import Derived.Test.YtpnfcjodjgbdbaaRgEq
namespace Go.Proofs.Ytpnfcjodjgbdbaa.Ring
set_option linter.unusedVariables false
set_option linter.unusedSimpArgs false
open Go.RowKit Mem

def l59 : List Tk := [(32033100382855910, 9), (82156967920554188, 5), (1608650403437564006, 5), (3292728269591182644, 9), (7732011863538085875, 5), (17754295946151180148, 9)]
theorem l59_sorted : Sorted l59 := by decide +kernel
theorem l59_perm : l59.Perm (raw [5, 9] 3) := by decide +kernel
theorem srt_59 : srt (raw [5, 9] 3) = l59 := srt_eq l59_sorted l59_perm
theorem right_59 : Right l59 := ⟨by decide, l59_sorted⟩
theorem met_59 : met 1 l59 = [9, 5] := by decide +kernel
theorem make59 (g : Nat) (W : World) (h0 : W.cell? ⟨g, 0, none⟩ = some (.int .i64 5)) (h1 : W.cell? ⟨g, 1, none⟩ = some (.int .i64 9)) :
    Calls Try.prog 9 #[.slice (some ⟨g, 0, none⟩) 2 2, .int .i64 3] W (MadeOut l59 W) := by
  have h := make_ok (some ⟨g, 0, none⟩) [5, 9] 2 2 3 W rfl (by omega) (fun k v hv => by
    have hg := World.block_lt_of_cell? _ _ h0
    rcases k with _ | _ | k
    · simp at hv; subst hv; exact ⟨g, 0, rfl, hg, h0⟩
    · simp at hv; subst hv; exact ⟨g, 0, rfl, hg, h1⟩
    · simp at hv) (by decide)
  rw [srt_59] at h
  exact h
theorem some59 (A : Option Addr) (ca : Nat) (W : World) (h : TRds W A l59) : Calls Try.prog 16 #[.slice A 6 ca, .int .u64 1, .int .i64 2] W fun e W' => ∃ A c, e = .returned (.tuple #[.slice A 2 c, .int .i64 0]) ∧ ZTab W' W.heap.size (.slice A 2 c) [9, 5] ∧ Below W.heap.size W W' := by
  refine (some_ok A l59 6 ca 1 2 W rfl h right_59 (by omega)).mono ?_
  rw [met_59]
  rintro e w (⟨_, A, c, he, hz, hb⟩ | ⟨h2, _⟩)
  · exact ⟨A, c, he, hz, hb⟩
  · simp at h2
theorem short59 (A : Option Addr) (ca : Nat) (W : World) (h : TRds W A l59) : Calls Try.prog 16 #[.slice A 6 ca, .int .u64 1, .int .i64 3] W (Gave (.tuple #[.slice none 0 0, .int .i64 8]) W) := by
  refine (some_ok A l59 6 ca 1 3 W rfl h right_59 (by omega)).mono ?_
  rw [met_59]
  rintro e w (⟨h2, _⟩ | ⟨_, he, hb⟩)
  · simp at h2
  · exact ⟨he, hb⟩
theorem find59 (A : Option Addr) (ca : Nat) (W : World) (h : TRds W A l59) : Calls Try.prog 15 #[.slice A 6 ca, .int .u64 1] W (Gave (.tuple #[.int .i64 9, .int .i64 0]) W) :=
  find_ok A l59 6 ca 1 9 W rfl h right_59 (by rw [met_59]; rfl)
theorem lit59 (w : World) (t : TypeId) (u v : Value) : (w.alloc (.cells #[u, v] t)).cell? ⟨w.heap.size, 0, none⟩ = some u ∧ (w.alloc (.cells #[u, v] t)).cell? ⟨w.heap.size, 1, none⟩ = some v :=
  ⟨(Known.made w t #[u, v]).cell 0, (Known.made w t #[u, v]).cell 1⟩
set_option maxRecDepth 100000 in
set_option maxHeartbeats 4000000 in
theorem alive_c (W : World) : Calls Try.prog 19 #[] W (Law.Yes W) := by
  obtain ⟨k0, k1⟩ := lit59 W 3 (.int .i64 5) (.int .i64 9)
  have M := Lib.hid (make59 _ _ k0 k1)
  have B0 := Lib.hid ((Below.refl _ W).alloc (Nat.le_refl _) (.cells #[.int .i64 5, .int .i64 9] 3))
  clear k0 k1
  go_enter Try.func19, Try.ntmps19
  go_wp2_with fail
  refine M.out.mono ?_
  rintro e w1 ⟨A, c, rfl, hT, hb⟩
  have T1 := Lib.hid hT
  have B1 := Lib.hid (B0.out.trans (hb.mono B0.out.size))
  clear hT hb B0 M
  go_wp2_with fail
  refine (some59 A c w1 T1.out).mono ?_
  rintro e w2 ⟨A2, c2, rfl, hz, hb⟩
  have T2 := Lib.hid (T1.out.below hb)
  have B2 := Lib.hid (B1.out.trans (hb.mono B1.out.size))
  have Z2 := Lib.hid hz
  clear hz hb T1 B1
  go_wp2_with fail
  refine (short59 A c w2 T2.out).mono ?_
  rintro e w3 ⟨rfl, hb⟩
  have T3 := Lib.hid (T2.out.below hb)
  have B3 := Lib.hid (B2.out.trans (hb.mono B2.out.size))
  have Z3 := Lib.hid (Z2.out.later hb)
  clear hb T2 B2 Z2
  go_wp2_with fail
  refine (find59 A c w3 T3.out).mono ?_
  rintro e w4 ⟨rfl, hb⟩
  have B4 := Lib.hid (B3.out.trans (hb.mono B3.out.size))
  have Z4 := Lib.hid (Z3.out.later hb)
  clear hb T3 B3 Z3
  obtain ⟨b, o, rfl, _, c0⟩ := reads_z Z4.out.reads (k := 0) (by decide)
  obtain ⟨b', o', e', _, c1⟩ := reads_z Z4.out.reads (k := 1) (by decide)
  injection e' with e'
  injection e' with e1 e2
  subst e1 e2
  simp at c0 c1
  go_wp2
  go_quiet (fail)
  go_wp2
  go_ret
  exact ⟨rfl, below_drewN B4.out _⟩
end Go.Proofs.Ytpnfcjodjgbdbaa.Ring
