/-
  The law SynodOne over what it takes of the program.
-/
import Derived.Test.YtpoielmbdofjlaaSyFind
import Derived.Test.YtpoielmbdofjlaaLaw
import Derived.Deep.RegionHeld3
import Derived.Deep.DeepCutAuto
namespace Go.Proofs.Ytpoielmbdofjlaa.Syn
set_option linter.unusedVariables false
set_option linter.unusedSimpArgs false
open Go.RowKit Mem Gt
open Jump (Gave equalZ_c)

theorem undrewS {B : Nat} {W V : World} (h : Below B W.drew V) : Below B W V := ⟨h.os, h.tape, h.output, h.size, h.block⟩
theorem playC_one {m : Int} {l : List VO} {x y : Int} (hx : x ∈ playC m l) (hy : y ∈ playC m l) : x = y := by
  unfold playC at hx hy
  split at hx
  · rename_i h; rw [if_pos h] at hy; exact chosen_one (run_inv _ _) hx hy
  · simp at hx
theorem playC_named {m : Int} {l : List VO} {x : Int} (hx : x ∈ playC m l) : l.any (fun o => o.1 == 1 && o.2.2.2 == x) = true := by
  unfold playC at hx
  split at hx
  · obtain ⟨o, ho, h1, h2⟩ := chosen_named (run_inv m.toNat l) (run_named m.toNat l) hx
    exact List.any_eq_true.2 ⟨o, ho, by simp [h1, h2]⟩
  · simp at hx
theorem playC_bad {m : Int} {l : List VO} {n : Nat} (hn : l.length = n) (h : playE m n = 2) : playA m l = [] ∧ playC m l = [] := by
  unfold playA playC
  rw [hn, if_neg (by rw [h]; decide), if_neg (by rw [h]; decide)]
  exact ⟨rfl, rfl⟩
set_option maxRecDepth 100000 in
set_option maxHeartbeats 8000000 in
theorem one_w (hP : PlaySpec) (m : Int) (A : Option Addr) (l : List VO) (n ca : Nat) (W : World) (hm : Fit m) (hn : l.length = n) (hbig : n ≤ 4398046511104) (hx : Reads W A (flat voE l)) (hf : FitOs l) :
    Calls Try.prog 4 #[.int .i64 m, .slice A n ca] W (Law.Yes W) := by
  have AL := Lib.hid (fun V => alive_c hP V)
  rcases playE_vals m n with ⟨hk, _⟩ | hk
  · obtain ⟨al, hal⟩ : ∃ al, playA m l = al := ⟨_, rfl⟩
    obtain ⟨na, hna⟩ : ∃ na, al.length = na := ⟨_, rfl⟩
    obtain ⟨cs, hcs⟩ : ∃ cs, playC m l = cs := ⟨_, rfl⟩
    obtain ⟨nc, hnc⟩ : ∃ nc, cs.length = nc := ⟨_, rfl⟩
    have N4 : nc ≤ 400 := by rw [← hnc, ← hcs]; exact playC_len m l
    have P1 := Lib.hid (fun V (h : Reads V A (flat voE l)) => hP m A l n ca V al na cs nc 0 hm hn (by omega) h hf hk hal hna hcs hnc)
    have ONE := Lib.hid (fun x y (h1 : x ∈ cs) (h2 : y ∈ cs) => playC_one (m := m) (l := l) (hcs ▸ h1) (hcs ▸ h2))
    have NAM := Lib.hid (fun x (h1 : x ∈ cs) => playC_named (m := m) (l := l) (hcs ▸ h1))
    have HX := Lib.hid hx
    have HF := Lib.hid hf
    have HN := Lib.hid hn
    have HC := Lib.hid hnc
    have mk := fun fn first cap w => (show (Instr.makeFunc fn first cap).run Try.prog w = .ok (.func fn first cap) w from rfl)
    clear hx hf hn hm hk hal hna hcs hnc
    go_enter Try.func4, Try.ntmps4
    go_wp2_with fail
    refine (AL.out _).mono ?_
    rintro e w1 ⟨rfl, hb⟩
    have B1 := Lib.hid hb
    clear hb
    go_wp2_with fail
    refine (P1.out _ (HX.out.below B1.out)).mono ?_
    rintro e w2 ⟨A2, a2, C2, c2, rfl, _, _, hc, hb⟩
    have B2 := Lib.hid (B1.out.trans (hb.mono B1.out.size))
    have RC := Lib.hid hc
    clear hc hb
    go_wp2
    go_loopw [26] (fun i_ V => ∃ k : Nat, k ≤ nc ∧ i_ = .int .i64 k ∧ Below w2.heap.size w2 V) (fun i_ _ => nc - (intOf i_).toNat)
    case atStart => exact ⟨0, by omega, rfl, Below.refl _ _⟩
    case round =>
      obtain ⟨k, hk, rfl, hB⟩ := hrel
      have BB := Lib.hid hB
      by_cases hlt : k < nc
      · have kl : k < cs.length := by rw [HC.out]; exact hlt
        obtain ⟨x, hx⟩ : ∃ x, cs[k]? = some x := ⟨_, List.getElem?_eq_getElem kl⟩
        obtain ⟨x0, hx0⟩ : ∃ x, cs[0]? = some x := ⟨_, List.getElem?_eq_getElem (by omega)⟩
        obtain rfl : x0 = x := ONE.out _ _ (List.mem_of_getElem? hx0) (List.mem_of_getElem? hx)
        have hnm := NAM.out _ (List.mem_of_getElem? hx)
        obtain ⟨b1, o1, rfl, hb1, y1⟩ := z_at (RC.out.below hB) hx
        obtain ⟨b2, o2, e2, _, y0⟩ := z_at (RC.out.below hB) hx0
        injection e2 with e2
        injection e2 with e3 e4
        subst e3 e4
        have i1 : (k : Int) < (nc : Int) := by omega
        have i2 : (0 : Int) < (nc : Int) := by omega
        have i3 : 0 < nc := by omega
        have e1 : ((x0 : Int) != x0) = false := by simp
        obtain ⟨X, hX⟩ : ∃ X, X = wr.alloc (.cells #[.int .i64 x0] 3) := ⟨_, rfl⟩
        have z1 : X.cell? ⟨wr.heap.size, 0, none⟩ = some (.int .i64 x0) := by rw [hX]; exact (Known.made wr 3 #[.int .i64 x0]).cell 0
        have z0 : X.cell? ⟨b1, o1, none⟩ = some (.int .i64 x0) := by rw [hX]; exact (World.cell?_alloc_lt _ _ _ hb1).trans (by simpa using y0)
        have BX := Lib.hid (show Below w2.heap.size w2 X by rw [hX]; exact hB.alloc hB.size _)
        have SK := Lib.hid (show ∀ w, Below X.heap.size X w → w.cell? ⟨wr.heap.size, 0, none⟩ = some (.int .i64 x0) ∧ w.cell? ⟨b1, o1, none⟩ = some (.int .i64 x0) from fun w h =>
          ⟨(h.cell (World.block_lt_of_cell? _ _ z1)).trans z1, (h.cell (World.block_lt_of_cell? _ _ z0)).trans z0⟩)
        have CC := Lib.hid (fun (Y : World) (hY : Below X.heap.size X Y) => contains_x wr.heap.size (fun o => o.1 == 1 && o.2.2.2 == x0) A l n ca Y HN.out (by omega) (HX.out.below (B2.out.trans ((BX.out.trans (hY.mono BX.out.size)).mono B2.out.size))) HF.out true hnm
          (fun V o _ hb => one1_c wr.heap.size x0 o V (SK.out V (hY.trans (hb.mono hY.size))).1))
        have EX := Lib.hid hX
        clear hx hx0 hnm hX kl hB hb1 y0
        go_wp2
        rw [← EX.out]
        go_region_held3 (fun w' => w'.cell? ⟨wr.heap.size, 0, none⟩ = some (.int .i64 x0) ∧ w'.cell? ⟨b1, o1, none⟩ = some (.int .i64 x0)) (first | exact SK.out _ (below_drew (Below.refl _ _)) | exact SK.out _ K2.out | go_keep)
          ((go_at_call 13; refine (CC.out X.drew (below_drew (Below.refl _ _))).mono ?_; rintro e w3 ⟨rfl, hb2⟩; have K2 := Lib.hid (show Below X.heap.size X w3 from undrewS hb2); clear hb2))
        go_wp2
        go_roundw
        case rel => exact ⟨k + 1, by omega, by go_num, BX.out.trans (K2.out.mono BX.out.size)⟩
        case measure => simp [intOf] <;> omega
      · have i1 : ¬ (k : Int) < (nc : Int) := by omega
        clear hlt hB
        go_wp2
        go_ret
        exact ⟨rfl, B2.out.trans (BB.out.mono B2.out.size)⟩
  · obtain ⟨h1, h2⟩ := playC_bad hn hk
    have P1 := Lib.hid (fun V (h : Reads V A (flat voE l)) => hP m A l n ca V [] 0 [] 0 2 hm hn (by omega) h hf hk h1 rfl h2 rfl)
    have HX := Lib.hid hx
    clear hx hf hn hm hk h1 h2
    go_enter Try.func4, Try.ntmps4
    go_wp2_with fail
    refine (AL.out _).mono ?_
    rintro e w1 ⟨rfl, hb⟩
    have B1 := Lib.hid hb
    clear hb
    go_wp2_with fail
    refine (P1.out _ (HX.out.below B1.out)).mono ?_
    rintro e w2 ⟨A2, a2, C2, c2, rfl, _, _, hc, hb⟩
    have B2 := Lib.hid (B1.out.trans (hb.mono B1.out.size))
    clear hc hb
    go_wp2
    go_ret
    exact ⟨rfl, B2.out⟩
end Go.Proofs.Ytpoielmbdofjlaa.Syn
