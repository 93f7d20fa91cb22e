/-
  What the laws on quorums try first.
-/
import Derived.Test.YteggbepibfpjcaaQrSpec
import Derived.Test.YteggbepibfpjcaaQrRef3
namespace Go.Proofs.Yteggbepibfpjcaa.Qr
set_option linter.unusedVariables false
set_option linter.unusedSimpArgs false
open Go.RowKit Mem

theorem row1 (w : World) (a : Nat) : Reads (w.alloc (.cells #[.int .u16 (a : Nat)] 23)) (some ⟨w.heap.size, 0, none⟩) ([a].map w16) := fun k v hv => by
  have kn := Known.made w 23 #[.int .u16 (a : Nat)]
  refine ⟨w.heap.size, 0, rfl, kn.lt, ?_⟩
  rcases k with _ | k
  · simp at hv; subst hv; exact kn.cell 0
  · simp at hv
theorem row2 (w : World) (a b : Nat) : Reads (w.alloc (.cells #[.int .u16 (a : Nat), .int .u16 (b : Nat)] 23)) (some ⟨w.heap.size, 0, none⟩) ([a, b].map w16) := fun k v hv => by
  have kn := Known.made w 23 #[.int .u16 (a : Nat), .int .u16 (b : Nat)]
  refine ⟨w.heap.size, 0, rfl, kn.lt, ?_⟩
  rcases k with _ | _ | k
  · simp at hv; subst hv; exact kn.cell 0
  · simp at hv; subst hv; exact kn.cell 1
  · simp at hv
theorem row3 (w : World) (a b c : Nat) : Reads (w.alloc (.cells #[.int .u16 (a : Nat), .int .u16 (b : Nat), .int .u16 (c : Nat)] 23)) (some ⟨w.heap.size, 0, none⟩) ([a, b, c].map w16) := fun k v hv => by
  have kn := Known.made w 23 #[.int .u16 (a : Nat), .int .u16 (b : Nat), .int .u16 (c : Nat)]
  refine ⟨w.heap.size, 0, rfl, kn.lt, ?_⟩
  rcases k with _ | _ | _ | k
  · simp at hv; subst hv; exact kn.cell 0
  · simp at hv; subst hv; exact kn.cell 1
  · simp at hv; subst hv; exact kn.cell 2
  · simp at hv
theorem row4 (w : World) (a b c d : Nat) : Reads (w.alloc (.cells #[.int .u16 (a : Nat), .int .u16 (b : Nat), .int .u16 (c : Nat), .int .u16 (d : Nat)] 23)) (some ⟨w.heap.size, 0, none⟩) ([a, b, c, d].map w16) := fun k v hv => by
  have kn := Known.made w 23 #[.int .u16 (a : Nat), .int .u16 (b : Nat), .int .u16 (c : Nat), .int .u16 (d : Nat)]
  refine ⟨w.heap.size, 0, rfl, kn.lt, ?_⟩
  rcases k with _ | _ | _ | _ | k
  · simp at hv; subst hv; exact kn.cell 0
  · simp at hv; subst hv; exact kn.cell 1
  · simp at hv; subst hv; exact kn.cell 2
  · simp at hv; subst hv; exact kn.cell 3
  · simp at hv
theorem belowA {B : Nat} {W V : World} (h : Below B W V) (hs : B ≤ V.heap.size) (o : Obj) : Below B W (V.alloc o) := h.alloc hs o
set_option maxRecDepth 100000 in
set_option maxHeartbeats 8000000 in
theorem alive_c (hMaj : MajSpec) (hGrid : GridSpec) (hDual : DualSpec) (hMeet : MeetSpec) (W : World) : Calls Try.prog 24 #[] W (Gave (.bool true) W) := by
  have P1 := Lib.hid (fun V => hMaj 3 V [3, 5, 6] 3 0 maj0.1 maj0.2 rfl)
  have P2 := Lib.hid (fun V => hGrid 2 2 V [7, 11, 13, 14] 4 0 grid0.1 grid0.2 rfl)
  have P3 := Lib.hid (fun V A c h => hDual 3 A [1, 6] 2 c V [3, 5] 2 0 rfl (by decide) h (fun s hs => by simp at hs; omega) dual0.1 dual0.2 rfl)
  have P4 := Lib.hid (fun V A c B d h1 h2 => hMeet A [1] 1 c B [2] 1 d V false 0 rfl (by decide) h1 (fun s hs => by simp at hs; omega) rfl (by decide) h2 (fun s hs => by simp at hs; omega) meet0.1 meet0.2)
  go_enter Try.func24, Try.ntmps24
  go_wp2_with fail
  refine (P1.out _).mono ?_
  rintro e w1 ⟨A1, c1, rfl, hr, hb⟩
  have R1 := Lib.hid hr
  have B1 := Lib.hid hb
  clear hr hb
  go_wp2_with fail
  refine (P2.out _).mono ?_
  rintro e w2 ⟨A2, c2, rfl, hr, hb⟩
  have R1b := Lib.hid (R1.out.below hb)
  have R2 := Lib.hid hr
  have B2 := Lib.hid (B1.out.trans (hb.mono B1.out.size))
  have L1 := Lib.hid (row2 w2 1 6)
  have C1 := Lib.hid ((Below.refl w2.heap.size w2).alloc (Nat.le_refl _) (.cells #[.int .u16 1, .int .u16 6] 23))
  clear hr hb R1
  go_wp2_with fail
  refine (P3.out _ _ 2 L1.out).mono ?_
  rintro e w3 ⟨A3, c3, rfl, hr, hb⟩
  have hb' := C1.out.trans (hb.mono C1.out.size)
  have R1c := Lib.hid (R1b.out.below hb')
  have R2c := Lib.hid (R2.out.below hb')
  have R3 := Lib.hid hr
  have B3 := Lib.hid (B2.out.trans (hb'.mono B2.out.size))
  have L2 := Lib.hid ((row1 w3 1).alloc (.cells #[.int .u16 2] 23))
  have hL3 := row1 (w3.alloc (.cells #[.int .u16 1] 23)) 2
  simp only [World.size_alloc] at hL3
  have L3 := Lib.hid hL3
  have C2 := Lib.hid (((Below.refl w3.heap.size w3).alloc (Nat.le_refl _) (.cells #[.int .u16 1] 23)).alloc (by simp) (.cells #[.int .u16 2] 23))
  clear hr hb hb' R1b R2 L1 C1 hL3
  go_wp2_with fail
  refine (P4.out _ _ 1 _ 1 L2.out L3.out).mono ?_
  rintro e w4 ⟨rfl, hb⟩
  have hb' := C2.out.trans (hb.mono C2.out.size)
  have R1d := Lib.hid ((R1c.out.below hb').alloc (.cells #[.int .u16 3, .int .u16 5, .int .u16 6] 23))
  have R2d := Lib.hid (R2c.out.below hb')
  have R3d := Lib.hid (R3.out.below hb')
  have B4 := Lib.hid (B3.out.trans (hb'.mono B3.out.size))
  have L4 := Lib.hid (row3 w4 3 5 6)
  have C3 := Lib.hid ((Below.refl w4.heap.size w4).alloc (Nat.le_refl _) (.cells #[.int .u16 3, .int .u16 5, .int .u16 6] 23))
  clear hb hb' R1c R2c R3 L2 L3 C2
  go_wp2_with fail
  refine (equal_u _ _ [3, 5, 6] 3 _ 3 _ rfl (by decide) R1d.out L4.out).mono ?_
  rintro e w5 ⟨rfl, hb⟩
  have hb' := C3.out.trans (hb.mono C3.out.size)
  have R2e := Lib.hid ((R2d.out.below hb').alloc (.cells #[.int .u16 7, .int .u16 11, .int .u16 13, .int .u16 14] 23))
  have R3e := Lib.hid (R3d.out.below hb')
  have B5 := Lib.hid (B4.out.trans (hb'.mono B4.out.size))
  have L5 := Lib.hid (row4 w5 7 11 13 14)
  have C4 := Lib.hid ((Below.refl w5.heap.size w5).alloc (Nat.le_refl _) (.cells #[.int .u16 7, .int .u16 11, .int .u16 13, .int .u16 14] 23))
  clear hb hb' R1d R2d R3d L4 C3
  go_wp2_with fail
  refine (equal_u _ _ [7, 11, 13, 14] 4 _ 4 _ rfl (by decide) R2e.out L5.out).mono ?_
  rintro e w6 ⟨rfl, hb⟩
  have hb' := C4.out.trans (hb.mono C4.out.size)
  have R3f := Lib.hid ((R3e.out.below hb').alloc (.cells #[.int .u16 3, .int .u16 5] 23))
  have B6 := Lib.hid (B5.out.trans (hb'.mono B5.out.size))
  have L6 := Lib.hid (row2 w6 3 5)
  have C5 := Lib.hid ((Below.refl w6.heap.size w6).alloc (Nat.le_refl _) (.cells #[.int .u16 3, .int .u16 5] 23))
  clear hb hb' R2e R3e L5 C4
  go_wp2_with fail
  refine (equal_u _ _ [3, 5] 2 _ 2 _ rfl (by decide) R3f.out L6.out).mono ?_
  rintro e w7 ⟨rfl, hb⟩
  have hb' := C5.out.trans (hb.mono C5.out.size)
  have B7 := Lib.hid (B6.out.trans (hb'.mono B6.out.size))
  clear hb hb'
  go_wp2
  go_ret
  exact ⟨rfl, B7.out⟩
end Go.Proofs.Yteggbepibfpjcaa.Qr
