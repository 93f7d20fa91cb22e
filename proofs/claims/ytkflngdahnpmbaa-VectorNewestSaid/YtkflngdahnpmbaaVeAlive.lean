/-
  Package vector: what the laws try first.
-/
import Derived.Test.YtkflngdahnpmbaaVeMem
import Derived.Test.YtkflngdahnpmbaaLaw
import Derived.Deep.Cut
import Derived.Deep.DeepCutAuto
namespace Go.Proofs.Ytkflngdahnpmbaa.Ve
set_option linter.unusedVariables false
set_option linter.unusedSimpArgs false
open Go.RowKit Mem Gt
open Jump (Gave equalZ_c)

theorem low_lit (w : World) (o : Obj) : Below w.heap.size w (w.alloc o) := (Below.refl _ w).alloc (Nat.le_refl _) o
theorem reads_lit (V : World) (t : TypeId) {cs : Array Value} {l : List Value} (h : cs.toList = l) : Reads (V.alloc (.cells cs t)) (some ⟨V.heap.size, 0, none⟩) l := fun k v hv => by
  refine ⟨V.heap.size, 0, rfl, by simp, ?_⟩
  have kn : (V.alloc (.cells cs t)).heap[V.heap.size]? = some (.cells cs t (0, 0)) := Mem.Known.made V t cs
  rw [Nat.zero_add, cell_of_row _ _ k _ _ _ kn]
  rw [← h] at hv
  simpa using hv
abbrev two (a b : Int) : Obj := .cells #[.int .i64 a, .int .i64 b] 3
theorem lit1 (W : World) (a b : Int) : Reads (W.alloc (two a b)) (some ⟨W.heap.size, 0, none⟩) ([a, b].map (Value.int .i64)) := reads_lit W _ rfl
theorem lit2 (W : World) (a b c d : Int) : Reads ((W.alloc (two a b)).alloc (two c d)) (some ⟨W.heap.size, 0, none⟩) ([a, b].map (Value.int .i64)) ∧ Reads ((W.alloc (two a b)).alloc (two c d)) (some ⟨W.heap.size + 1, 0, none⟩) ([c, d].map (Value.int .i64)) ∧ Below W.heap.size W ((W.alloc (two a b)).alloc (two c d)) := by
  refine ⟨(lit1 W a b).below (low_lit _ _), ?_, (low_lit W _).trans ((low_lit _ _).mono (by simp))⟩
  have := lit1 (W.alloc (two a b)) c d
  simpa using this
theorem lit4 (W : World) (a b c d e f g h : Int) : ∀ X, X = ((((W.alloc (two a b)).alloc (two c d)).alloc (two e f)).alloc (two g h)).alloc (.cells #[.slice (some ⟨W.heap.size, 0, none⟩) 2 2, .slice (some ⟨W.heap.size + 1, 0, none⟩) 2 2, .slice (some ⟨W.heap.size + 2, 0, none⟩) 2 2, .slice (some ⟨W.heap.size + 3, 0, none⟩) 2 2] 22) →
    VRds X (some ⟨W.heap.size + 4, 0, none⟩) [[a, b], [c, d], [e, f], [g, h]] ∧ Below W.heap.size W X := by
  intro X hX
  obtain ⟨W2, h2⟩ : ∃ W2, W2 = (W.alloc (two a b)).alloc (two c d) := ⟨_, rfl⟩
  obtain ⟨W4, h4⟩ : ∃ W4, W4 = (W2.alloc (two e f)).alloc (two g h) := ⟨_, rfl⟩
  obtain ⟨r1, r2, b1⟩ := lit2 W a b c d
  rw [← h2] at r1 r2 b1
  have s2 : W2.heap.size = W.heap.size + 2 := by rw [h2]; simp
  obtain ⟨r3, r4, b2⟩ := lit2 W2 e f g h
  rw [← h4, s2] at r3 r4
  rw [← h4] at b2
  have s4 : W4.heap.size = W.heap.size + 4 := by rw [h4]; simp [s2]
  rw [← h2, ← h4] at hX
  have r5 := reads_lit W4 22 (cs := #[.slice (some ⟨W.heap.size, 0, none⟩) 2 2, .slice (some ⟨W.heap.size + 1, 0, none⟩) 2 2, .slice (some ⟨W.heap.size + 2, 0, none⟩) 2 2, .slice (some ⟨W.heap.size + 3, 0, none⟩) 2 2]) rfl
  rw [← hX, s4] at r5
  have b3 : Below W4.heap.size W4 X := by rw [hX]; exact low_lit _ _
  have b23 : Below W2.heap.size W2 X := b2.trans (b3.mono b2.size)
  refine ⟨⟨_, r5, rfl, fun k u l hu hl => ?_⟩, b1.trans (b23.mono b1.size)⟩
  have hk : k < 4 := (List.getElem?_eq_some_iff.1 hl).1
  have hk : k = 0 ∨ k = 1 ∨ k = 2 ∨ k = 3 := by omega
  rcases hk with rfl | rfl | rfl | rfl
  · simp at hu hl; subst hu hl; exact ⟨_, 2, rfl, ⟨by simp, by simp⟩, by simp, r1.below b23⟩
  · simp at hu hl; subst hu hl; exact ⟨_, 2, rfl, ⟨by simp, by simp⟩, by simp, r2.below b23⟩
  · simp at hu hl; subst hu hl; exact ⟨_, 2, rfl, ⟨by simp, by simp⟩, by simp, r3.below b3⟩
  · simp at hu hl; subst hu hl; exact ⟨_, 2, rfl, ⟨by simp, by simp⟩, by simp, r4.below b3⟩
theorem pure0 : wrongE [[1, 2], [2, 1]] = 0 ∧ cmp [1, 2] [2, 1] = 4 ∧ join [1, 2] [2, 1] = [2, 2] ∧ tickE [1, 2] 0 = 0 ∧ bump [1, 2] 0 = [2, 2] ∧ newE [[1, 1], [2, 1], [1, 2], [2, 1]] = 0 ∧ newest [[1, 1], [2, 1], [1, 2], [2, 1]] = [[2, 1], [1, 2]] := by
  refine ⟨by decide +kernel, by decide +kernel, by decide +kernel, by decide +kernel, by decide +kernel, by decide +kernel, by decide +kernel⟩
set_option maxHeartbeats 4000000 in
theorem alive_c (hC : CompareSpec) (hJ : JoinSpec) (hT : TickSpec) (hN : NewestSpec) (V : World) : Calls Try.prog 19 #[] V (Gave (.bool true) V) := by
  have P1 := Lib.hid (fun A B W (hr : Reads W A ([1, 2].map (Value.int .i64))) (hs : Reads W B ([2, 1].map (Value.int .i64))) => hC A B [1, 2] [2, 1] 2 2 2 2 W 4 0 rfl rfl (by omega) (by omega) (by omega) (by omega) hr hs pure0.1 (by rw [if_pos rfl]; exact pure0.2.1))
  have P2 := Lib.hid (fun A B W (hr : Reads W A ([1, 2].map (Value.int .i64))) (hs : Reads W B ([2, 1].map (Value.int .i64))) => hJ A B [1, 2] [2, 1] 2 2 2 2 W [2, 2] 2 0 rfl rfl (by omega) (by omega) (by omega) (by omega) hr hs pure0.1 (by rw [if_pos rfl]; exact pure0.2.2.1) rfl)
  have P3 := Lib.hid (fun A W (hr : Reads W A ([1, 2].map (Value.int .i64))) => hT A [1, 2] 2 2 0 W [2, 2] 2 0 rfl (by omega) (by omega) hr (by decide) pure0.2.2.2.1 (by rw [if_pos rfl]; exact pure0.2.2.2.2.1) rfl)
  have P4 := Lib.hid (fun A W (hr : VRds W A [[1, 1], [2, 1], [1, 2], [2, 1]]) => hN A [[1, 1], [2, 1], [1, 2], [2, 1]] 4 4 W [[2, 1], [1, 2]] 2 0 rfl (by omega) (by omega) hr pure0.2.2.2.2.2.1 (by rw [if_pos rfl]; exact pure0.2.2.2.2.2.2) rfl)
  clear hC hJ hT hN
  go_enter Try.func19, Try.ntmps19
  go_upto_region 1 with fail
  go_cut [1, 2] (fun c e wx => c = .int .i64 4 ∧ e = .int .i64 0 ∧ Below V.heap.size V wx)
  case first =>
    have L := Lib.hid (lit2 V 1 2 2 1)
    go_wp2_with fail
    refine (P1.out _ _ _ L.out.1 L.out.2.1).mono ?_
    rintro e w1 ⟨rfl, hb⟩
    have BB := Lib.hid (L.out.2.2.trans (hb.mono L.out.2.2.size))
    clear hb
    go_wp2
    go_meet
    exact ⟨rfl, rfl, BB.out⟩
  case rest =>
    obtain ⟨rfl, rfl, hb⟩ := hcut
    have BB := Lib.hid hb
    clear hb
    obtain ⟨w1, rfl⟩ : ∃ w1 : World, w1 = wc := ⟨_, rfl⟩
    go_upto_region 2 with fail
    go_cut [3, 4] (fun c e wx => ∃ A k, c = .slice A 2 k ∧ e = .int .i64 0 ∧ (2 ≤ k ∧ k ≤ 9223372036854775807) ∧ Reads wx A ([2, 2].map (Value.int .i64)) ∧ Below w1.heap.size w1 wx)
    case first =>
      have L := Lib.hid (lit2 w1 1 2 2 1)
      go_wp2_with fail
      refine (P2.out _ _ _ L.out.1 L.out.2.1).mono ?_
      rintro e w2 ⟨A, k, rfl, hk, hr, hb⟩
      have B2 := Lib.hid (L.out.2.2.trans (hb.mono L.out.2.2.size))
      have R := Lib.hid hr
      clear hb hr
      go_wp2
      go_meet
      exact ⟨A, k, rfl, rfl, hk, R.out, B2.out⟩
    case rest =>
      obtain ⟨A, k, rfl, rfl, hk, hr, hb⟩ := hcut
      have RJ := Lib.hid hr
      have B2 := Lib.hid (BB.out.trans (hb.mono BB.out.size))
      clear hb hr BB P1 P2
      obtain ⟨w2, rfl⟩ : ∃ w2 : World, w2 = wc := ⟨_, rfl⟩
      go_upto_region 3 with fail
      go_cut [5, 6] (fun c e wx => ∃ A k, c = .slice A 2 k ∧ e = .int .i64 0 ∧ (2 ≤ k ∧ k ≤ 9223372036854775807) ∧ Reads wx A ([2, 2].map (Value.int .i64)) ∧ Below w2.heap.size w2 wx)
      case first =>
        have L := Lib.hid (lit1 w2 1 2)
        have B3 := Lib.hid (low_lit w2 (two 1 2))
        go_wp2_with fail
        refine (P3.out _ _ L.out).mono ?_
        rintro e w3 ⟨A', k', rfl, hk', hr, hb⟩
        have B4 := Lib.hid (B3.out.trans (hb.mono B3.out.size))
        have R := Lib.hid hr
        clear hb hr
        go_wp2
        go_meet
        exact ⟨A', k', rfl, rfl, hk', R.out, B4.out⟩
      case rest =>
        obtain ⟨A', k', rfl, rfl, hk', hr, hb⟩ := hcut
        have RT := Lib.hid hr
        have RJ2 := Lib.hid (RJ.out.below hb)
        have B3 := Lib.hid (B2.out.trans (hb.mono B2.out.size))
        clear hb hr B2 P3 RJ
        obtain ⟨w3, rfl⟩ : ∃ w3 : World, w3 = wc := ⟨_, rfl⟩
        go_upto_region 4 with fail
        go_cut [7, 8] (fun c e wx => ∃ A k, c = .slice A 2 k ∧ e = .int .i64 0 ∧ Below w3.heap.size w3 wx)
        case first =>
          have L := Lib.hid (lit4 w3 1 1 2 1 1 2 2 1 _ rfl)
          go_wp2_with fail
          refine (P4.out _ _ L.out.1).mono ?_
          rintro e w4 ⟨A2, k2, rfl, hk2, hr, hb⟩
          have B4 := Lib.hid (L.out.2.trans (hb.mono L.out.2.size))
          clear hb hr
          go_wp2
          go_meet
          exact ⟨A2, k2, rfl, rfl, B4.out⟩
        case rest =>
          obtain ⟨A2, k2, rfl, rfl, hb⟩ := hcut
          have B4 := Lib.hid (B3.out.trans (hb.mono B3.out.size))
          obtain ⟨w4, rfl⟩ : ∃ w4 : World, w4 = wc := ⟨_, rfl⟩
          have E1 := Lib.hid (equalZ_c A (some ⟨w4.heap.size, 0, none⟩) [2, 2] [2, 2] 2 2 k 2 (w4.alloc (two 2 2)) rfl rfl (by omega) (by omega) ((RJ2.out.below hb).below (low_lit _ _)) (lit1 w4 2 2))
          have E2 := Lib.hid (fun w5 (hw : Below w4.heap.size w4 w5) => equalZ_c A' (some ⟨w5.heap.size, 0, none⟩) [2, 2] [2, 2] 2 2 k' 2 (w5.alloc (two 2 2)) rfl rfl (by omega) (by omega) (((RT.out.below hb).below hw).below (low_lit _ _)) (lit1 w5 2 2))
          clear hb B3 RJ2 RT P4
          go_wp2_with fail
          refine E1.out.mono ?_
          rintro e w5 ⟨rfl, hb5⟩
          have B5 := Lib.hid ((low_lit w4 (two 2 2)).trans (hb5.mono (by simp)))
          have E3 := Lib.hid (E2.out w5 B5.out)
          clear hb5 E1 E2
          go_wp2_with fail
          refine E3.out.mono ?_
          rintro e w6 ⟨rfl, hb6⟩
          have B6 := Lib.hid (B4.out.trans ((B5.out.trans (((low_lit w5 (two 2 2)).trans (hb6.mono (by simp))).mono B5.out.size)).mono B4.out.size))
          clear hb6 E3
          go_wp2
          go_ret
          exact ⟨rfl, B6.out⟩
end Go.Proofs.Ytkflngdahnpmbaa.Ve
