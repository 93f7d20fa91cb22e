/-
  slices.Compact at []uint16.
-/
import Derived.Test.YteggbepibfpjcaaQsJ
namespace Go.Proofs.Yteggbepibfpjcaa.Qs
set_option linter.unusedVariables false
set_option linter.unusedSimpArgs false
open Go.RowKit Mem Qr Go.Sort

theorem plain_comp {d : Array Nat} {n : Nat} (h : ∀ i, 1 ≤ i → i < n → d[i]! ≠ d[i - 1]!) : (comp d n).length = n ∧ ∀ i, i < n → (comp d n)[i]! = d[i]! := by
  rw [comp_all d n h]
  refine ⟨by simp, fun i hi => ?_⟩
  rw [List.getElem!_eq_getElem?_getD, List.getElem?_map, List.getElem?_range hi]
  rfl
set_option maxRecDepth 100000 in
set_option maxHeartbeats 16000000 in
theorem compact_c (g o n ca : Nat) (d : Array Nat) (l : List Nat) (m : Nat) (W : World) (hH : Holds w16 W g o d) (hn : d.size = n) (hbig : n ≤ 70368744177664) (hc : n ≤ ca) (hca : ca ≤ maxLen) (hl : comp d n = l) (hm : l.length = m) :
    Calls Try.prog 32 #[.slice (some ⟨g, o, none⟩) n ca] W (fun e W' => ∃ A c, e = .returned (.slice A m c) ∧ Reads W' A (l.map w16) ∧ W.grownBy W' (some g)) := by
  have L0 := Lib.hid (Lay.start hH)
  have HN := Lib.hid hn
  have HL := Lib.hid hl
  have HM := Lib.hid hm
  have NC := Lib.hid (show n ≤ ca ∧ ca ≤ maxLen from ⟨hc, hca⟩)
  clear hH hn hl hm hc hca
  by_cases h2 : n < 2
  · have i1 : (n : Int) < 2 := by omega
    have PC := Lib.hid (plain_comp (d := d) (n := n) (fun i h1 h3 => by omega))
    obtain rfl : n = m := by rw [← HM.out, ← HL.out]; exact PC.out.1.symm
    clear h2
    go_enter Try.func32, Try.ntmps32
    go_wp2
    go_ret
    exact ⟨some ⟨g, o, none⟩, ca, rfl, reads_arr (k := 0) (d := d) (fun i hi => by
      have hi' : i < n := by rw [← HM.out]; exact hi
      rw [← HL.out, PC.out.2 i hi']; exact (L0.out.at_ (by rw [HN.out]; exact hi')).1), L0.out.grown⟩
  · have i1 : ¬ (n : Int) < 2 := by omega
    have N2 := Lib.hid (show 2 ≤ n by omega)
    clear h2
    go_enter Try.func32, Try.ntmps32
    go_wp2
    go_loopw [3] (fun k_ V => ∃ k : Nat, k_ = .int .i64 k ∧ 1 ≤ k ∧ k ≤ n ∧ (∀ i, 1 ≤ i → i < k → d[i]! ≠ d[i - 1]!) ∧ Lay W g o d d V) (fun k_ _ => n - (intOf k_).toNat)
    case atStart => exact ⟨1, rfl, Nat.le_refl _, by have := N2.out; omega, fun i h1 h2 => by omega, L0.out⟩
    case round =>
      obtain ⟨k, rfl, hk1, hkn, hne, hL⟩ := hrel
      have NE := Lib.hid hne
      have LL := Lib.hid hL
      clear hne hL L0
      by_cases hlt : k < n
      · have i2 : (k : Int) < (n : Int) := by omega
        obtain ⟨p, hp⟩ : ∃ p, p = k - 1 := ⟨_, rfl⟩
        have wm : IntKind.i64.wrap ((k : Int) - 1) = (p : Int) := by rw [show (k : Int) - 1 = (p : Int) by omega]; exact IntWalk.i64_in _ (by omega)
        have i3 : (p : Int) < (n : Int) := by omega
        have c1 := (LL.out.at_ (j := k) (by rw [HN.out]; omega)).1
        have c2 := (LL.out.at_ (j := p) (by rw [HN.out]; omega)).1
        obtain ⟨x, hx⟩ : ∃ x, d[k]! = x := ⟨_, rfl⟩
        obtain ⟨y, hy⟩ : ∃ y, d[p]! = y := ⟨_, rfl⟩
        rw [hx] at c1
        rw [hy] at c2
        unfold w16 at c1 c2
        by_cases hxy : x = y
        · have e1 : ((x : Int) == (y : Int)) = true := by simp; omega
          have F0 := Lib.hid (Fold.start (d := d) hk1 NE.out (by rw [hx, ← hp, hy, hxy]))
          have ck : (ca = k) = False := by simp; have := NC.out; omega
          have i4 : (k : Int) ≤ (n : Int) := by omega
          have i5 : (n : Int) ≤ (ca : Int) := by have := NC.out; omega
          have i6 : (k : Int) ≤ (ca : Int) := by have := NC.out; omega
          have KN := Lib.hid (show 1 ≤ k ∧ k < n from ⟨hk1, hlt⟩)
          clear hxy hx hy hp hlt hk1 hkn
          go_upto_region 6 with fail
          go_quiet (fail)
          go_wp2
          obtain ⟨q, hq⟩ : ∃ q, q = n - k := ⟨_, rfl⟩
          obtain ⟨cq, hcq⟩ : ∃ cq, cq = ca - k := ⟨_, rfl⟩
          rw [← hq, ← hcq]
          have KQ := Lib.hid (show k + q = n by have := KN.out; omega)
          clear hq hcq
          go_loopw [3, 5] (fun k_ j_ V => ∃ (kk j : Nat) (e : Array Nat), k_ = .int .i64 kk ∧ j_ = .int .i64 j ∧ 1 ≤ j ∧ j ≤ q ∧ Fold d e k j kk ∧ Lay W g o d e V) (fun k_ j_ _ => q - (intOf j_).toNat)
          case atStart => exact ⟨k, 1, d, rfl, rfl, Nat.le_refl _, by have := KQ.out; have := KN.out; omega, F0.out, by first | exact LL.out | exact LL.out.drewN _⟩
          case round =>
            obtain ⟨kk, j, e, rfl, rfl, hj1, hjq, hF, hL⟩ := hrel
            have FF := Lib.hid hF
            have L1 := Lib.hid hL
            have E1 := Lib.hid (hL.size.trans HN.out)
            have KJ := Lib.hid (show kk + 1 ≤ k + j ∧ k ≤ kk ∧ 1 ≤ j ∧ j ≤ q from ⟨hF.up, hF.low, hj1, hjq⟩)
            clear hF hL F0 LL c1 c2 e1
            by_cases hlt : j < q
            · have i7 : (j : Int) < (q : Int) := by omega
              have JQ := Lib.hid hlt
              obtain ⟨pj, hpj⟩ : ∃ pj, pj + 1 = j := ⟨j - 1, by omega⟩
              have wj : IntKind.i64.wrap ((j : Int) - 1) = (pj : Int) := by rw [show (j : Int) - 1 = (pj : Int) by omega]; exact IntWalk.i64_in _ (by have := KQ.out; omega)
              have wj1 : IntKind.i64.wrap ((j : Int) + 1) = ((j + 1 : Nat) : Int) := by rw [show (j : Int) + 1 = ((j + 1 : Nat) : Int) by omega]; exact IntWalk.i64_in _ (by have := KQ.out; omega)
              have i8 : (pj : Int) < (q : Int) := by omega
              have c3 := (L1.out.at_ (j := k + j) (by rw [E1.out]; have := KQ.out; omega)).1
              have c4 := (L1.out.at_ (j := k + pj) (by rw [E1.out]; have := KQ.out; omega)).1
              rw [← Nat.add_assoc, FF.out.tail (k + j) (by omega)] at c3
              rw [← Nat.add_assoc, FF.out.tail (k + pj) (by omega)] at c4
              have hd : k + j - 1 = k + pj := by omega
              obtain ⟨u, hu⟩ : ∃ u, d[k + j]! = u := ⟨_, rfl⟩
              obtain ⟨v, hv⟩ : ∃ v, d[k + pj]! = v := ⟨_, rfl⟩
              rw [hu] at c3
              rw [hv] at c4
              unfold w16 at c3 c4
              by_cases huv : u = v
              · have e2 : ((u : Int) != (v : Int)) = false := by simp; omega
                have FN := Lib.hid (FF.out.same (by have := KN.out; omega) (by rw [hd, hu, hv]; exact huv))
                clear hd hu hv huv hpj
                go_upto_region 11 with fail
                go_quiet (fail)
                go_wp2
                go_roundw
                case rel => exact ⟨kk, j + 1, e, rfl, by first | rfl | go_num, by omega, by have := JQ.out; omega, FN.out, by first | exact L1.out | exact L1.out.drewN _⟩
                case measure => have := JQ.out; simp [intOf] <;> omega
              · have e2 : ((u : Int) != (v : Int)) = true := by simp; omega
                have hks : kk < e.size := by rw [E1.out]; have := KJ.out; have := KQ.out; omega
                have FN := Lib.hid (FF.out.more hks (by rw [hd, hu, hv]; exact huv))
                obtain ⟨c5, f5⟩ := L1.out.at_ (j := kk) hks
                have SP := Lib.hid (fun n => (L1.out.drewN n).put hks d[k + j]!)
                have SQ := Lib.hid (L1.out.drew.put hks d[k + j]!)
                rw [hu] at SP SQ FN
                have i9 : (kk : Int) < (n : Int) := by have := KJ.out; have := KQ.out; omega
                have wkk : IntKind.i64.wrap ((kk : Int) + 1) = ((kk + 1 : Nat) : Int) := by rw [show (kk : Int) + 1 = ((kk + 1 : Nat) : Int) by omega]; exact IntWalk.i64_in _ (by omega)
                clear hd hu hv huv hpj hks
                go_upto_region 11 with fail
                go_quiet (fail)
                go_wp2
                go_roundw
                case rel => exact ⟨kk + 1, j + 1, _, by first | rfl | go_num, by first | rfl | go_num, by omega, by have := JQ.out; omega, FN.out, by first | exact SQ.out | exact SP.out _⟩
                case measure => have := JQ.out; simp [intOf] <;> omega
            · have i7 : ¬ (j : Int) < (q : Int) := by omega
              obtain rfl : j = q := by omega
              have hkm : kk = m := by rw [← HM.out, ← HL.out, ← KQ.out]; exact FF.out.len.symm
              subst hkm
              have ckk : (ca = kk) = False := by simp; have := NC.out; have := KJ.out; have := KQ.out; omega
              have i8 : (kk : Int) ≤ (n : Int) := by have := KJ.out; have := KQ.out; omega
              have i9 : (kk : Int) ≤ (ca : Int) := by have := NC.out; have := KJ.out; have := KQ.out; omega
              have hcl := fun ty => Lib.run_clear_slice (P := Try.prog) wr 22 23 ty (.int .u16 0) Try.underlying22 Try.zeroValue23 rfl rfl g (o + kk) (n - kk) (ca - kk) (by have := KJ.out; have := KQ.out; omega)
                (fun i hi => by rw [Nat.add_assoc, (L1.out.at_ (j := kk + i) (by rw [E1.out]; omega)).1]; rfl) (fun i hi => by rw [Nat.add_assoc]; exact (L1.out.at_ (j := kk + i) (by rw [E1.out]; omega)).2)
              have RD := Lib.hid (show Reads (wr.setCells g (o + kk) (List.replicate (n - kk) (.int .u16 0))) (some ⟨g, o, none⟩) (l.map w16) from reads_arr (k := 0) (d := d) (fun i hi => by
                have hi' : i < kk := by rw [← HM.out]; exact hi
                rw [World.cell?_setCells_out g _ _ _ _ (fun _ _ => .inl (by show o + i < o + kk; omega)), (L1.out.at_ (j := i) (by rw [E1.out]; have := KJ.out; have := KQ.out; omega)).1, FF.out.front i hi', KQ.out, HL.out]))
              have GR := Lib.hid (grown_trans L1.out.grown (grown_setCells wr g (o + kk) (List.replicate (n - kk) (.int .u16 0))))
              clear hlt
              go_wp2
              go_ret
              exact ⟨some ⟨g, o, none⟩, ⟨ca, rfl⟩, RD.out, GR.out⟩
        · have e1 : ((x : Int) == (y : Int)) = false := by simp; omega
          have HE := Lib.hid (show d[k]! ≠ d[k - 1]! by rw [hx, ← hp, hy]; exact hxy)
          clear hxy hx hy hp
          go_upto_region 6 with fail
          go_quiet (fail)
          go_wp2
          go_roundw
          case rel => exact ⟨k + 1, by go_num, by omega, by omega, fun i h1 h2 => by
            by_cases e : i = k
            · rw [e]; exact HE.out
            · exact NE.out i h1 (by omega), by first | exact LL.out | exact LL.out.drewN _⟩
          case measure => simp [intOf] <;> omega
      · have i2 : ¬ (k : Int) < (n : Int) := by omega
        obtain rfl : k = n := by omega
        have PC := Lib.hid (plain_comp NE.out)
        obtain rfl : k = m := by rw [← HM.out, ← HL.out]; exact PC.out.1.symm
        clear hlt hk1 hkn
        go_wp2
        go_ret
        exact ⟨some ⟨g, o, none⟩, ⟨ca, rfl⟩, reads_arr (k := 0) (d := d) (fun i hi => by
          have hi' : i < k := by rw [← HM.out]; exact hi
          rw [← HL.out, PC.out.2 i hi']; exact (LL.out.at_ (by rw [HN.out]; exact hi')).1), LL.out.grown⟩
end Go.Proofs.Yteggbepibfpjcaa.Qs
