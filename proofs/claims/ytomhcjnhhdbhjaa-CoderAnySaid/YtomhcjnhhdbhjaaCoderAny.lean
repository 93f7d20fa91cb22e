/-
  CoderAny: for every slice of byte rows, every integer more and every slice of integers picks, the law CoderAny answers true (of rows and those that are added whichever are left, if they are as many as rows, tell all rows), and its arguments read afterwards as before. No condition.
-/
import Derived.Test.YtomhcjnhhdbhjaaCoderAlive
import Derived.Test.YtomhcjnhhdbhjaaCoderRt
import Derived.Test.YtomhcjnhhdbhjaaLaw
import Derived.Test.YtomhcjnhhdbhjaaInts
import Derived.Test.YtomhcjnhhdbhjaaAnyPure
import Derived.Test.YtomhcjnhhdbhjaaRowsApp
import Derived.Test.YtomhcjnhhdbhjaaClone
import Derived.Test.YtomhcjnhhdbhjaaAnyOut
namespace Go.Proofs.Ytomhcjnhhdbhjaa.coderAny
open Go.ChangeShapes Go.WideShapes Go.ChangeAt Go.RowKit
open Gf Mem Poly Cdr
set_option linter.unusedVariables false

set_option maxRecDepth 100000 in
set_option maxHeartbeats 1000000 in
theorem main (hMore : MoreSpec) (hBack : BackSpec) (hRight : RightSpec) (A PA : Option Addr) (rows : List (List UInt8)) (zs : List Int) (ca cp : Nat) (m : Int) (W : World) (hs : Sane rows) (wm : (Lit.int .i64 m).wf = true) (hz : zs.length ≤ 17592186044416) (wz : ∀ z ∈ zs, (Lit.int .i64 z).wf = true) (hA : Rds W A rows) (hP : Reads W PA (zs.map (Value.int .i64))) :
    Calls Try.prog 5 #[.slice A rows.length ca, .int .i64 m, .slice PA zs.length cp] W (Law.Yes W) := by
  have h1 := alive_c hMore hBack W
  have h2 := fun V (h : Rds V A rows) => hMore A rows ca m V hs wm h
  have H1 := Lib.hid h1
  have H2 := Lib.hid h2
  have HA := Lib.hid hA
  have HP := Lib.hid hP
  have HS := Lib.hid hs
  have HR := Lib.hid hRight
  have HBK := Lib.hid hBack
  have WM := Lib.hid wm
  have WZ := Lib.hid wz
  clear h1 h2 hA hs hMore hBack hRight wm hP wz
  go_enter Try.func5, Try.ntmps5
  go_wp2_with fail
  refine H1.out.mono ?_
  rintro e w1 ⟨rfl, hb1⟩
  have B1 := Lib.hid hb1
  clear hb1
  go_wp2_with fail
  refine (H2.out w1 (HA.out.below B1.out)).mono ?_
  rintro e w2 ⟨A2, c2, x, e2, rfl, hc2, hR2, hB2, hP2⟩
  have R2 := Lib.hid hR2
  have B2 := Lib.hid (B1.out.trans (hB2.mono B1.out.size))
  clear hR2 hB2
  rcases hP2 with ⟨_, rfl, rfl⟩ | ⟨_, _, rfl, rfl⟩ | ⟨hbm, he, rfl, had⟩
  · go_wp2
    go_ret
    exact ⟨rfl, B2.out⟩
  · go_wp2
    go_ret
    exact ⟨rfl, B2.out⟩
  · obtain ⟨m', rfl⟩ : ∃ k : Nat, m = k := ⟨m.toNat, by unfold badMore at hbm; omega⟩
    have hpos : 0 < rows.length := by unfold badMore at hbm; omega
    have hn100 : rows.length ≤ 100 := by unfold badMore at hbm; omega
    have hm100 : m' ≤ 100 := by unfold badMore at hbm; omega
    rw [Int.toNat_natCast] at had
    have AD := Lib.hid had
    have HE := Lib.hid he
    have LX := Lib.hid (show x.length = m' from had.1)
    have hx : x.length = m' := had.1
    rw [hx]
    generalize hN : rows.length = n at *
    have HN := Lib.hid hN
    clear had he hbm hx hN
    go_wp2_with (first
      | (at_builtin; refine wpList_append_rows rfl (.tmp 35) (.tmp 36) rfl rfl rfl HN.out (Table.empty w2) (HA.out.below B2.out) ((Below.refl _ _).alloc (Nat.le_refl _) _) (Nat.le_refl _) (by have := HN.out; simp; omega) (by simp) ?_; intro A6 c6 w6 hT6 hB6; have hT6' := hT6.out; simp only [List.length_nil, Nat.zero_add, List.nil_append] at hT6'; have HT6 := Lib.hid hT6'; clear hT6' hT6)
      | (at_builtin; refine wpList_append_rows rfl (.tmp 37) (.tmp 38) rfl rfl rfl LX.out HT6.out R2.out hB6.out (Nat.le_refl _) (by have := HN.out; have := LX.out; simp; omega) hB6.out.size ?_; intro A7 c7 w7 hT7 hB7))
    rw [HN.out]
    have hT7' := hT7.out
    rw [HN.out] at hT7'
    have R7 := Lib.hid hT7'.rds
    have B7 := Lib.hid (B2.out.trans (hB7.out.mono B2.out.size))
    have LA := Lib.hid (show (rows ++ x).length = n + m' by rw [List.length_append, HN.out, LX.out])
    have LP := Lib.hid (show (numbered (rows ++ x)).length = n + m' by rw [numbered_len]; exact LA.out)
    have R140 := Lib.hid (show ∀ (k : Nat) (q : List UInt8), (rows ++ x)[k]? = some q → q.length ≤ 140737488351232 from fun k q hq => by
      have h0 : q.length = (rows.headD []).length := by
        by_cases hk : k < rows.length
        · rw [List.getElem?_append_left hk] at hq; exact evenB_len HE.out hq
        · rw [List.getElem?_append_right (by omega)] at hq; exact (AD.out.2 _ _ hq).1
      rw [h0]; exact HS.out.head)
    clear hT7 hT7' hB7 HT6 hB6
    go_loopw [9, 41] (fun s i wr => ∃ (k : Nat) (A3 : Option Addr) (c3 : Nat), k ≤ n + m' ∧ i = .int .i64 k ∧ s = .slice A3 k c3 ∧ PTable wr w7.heap.size s ((numbered (rows ++ x)).take k) ∧ Below w7.heap.size w7 wr) (fun _ i _ => n + m' - (intOf i).toNat)
    case atStart => exact ⟨0, none, 0, by omega, rfl, rfl, PTable.nil _ _, Below.refl _ _⟩
    case round =>
      obtain ⟨k, A3, c3, hk, rfl, rfl, hT, hB⟩ := hrel
      have HT := Lib.hid hT
      have HB := Lib.hid hB
      clear hT hB
      by_cases hlt : k < n + m'
      · obtain ⟨b3, o3, D, d, q, rfl, eq, cq, lq, ld, qq⟩ := R7.out.row (k := k) (by rw [LA.out]; exact hlt)
        have cq' := (World.cell?_of_block (a := ⟨b3, o3 + k, none⟩) (HB.out.block b3 (World.block_lt_of_cell? _ _ cq))).trans cq
        have LK := Lib.hid (show ((numbered (rows ++ x)).take k).length = k from Poly.take_len (by rw [LP.out]; omega))
        have LK1 := Lib.hid (show ((numbered (rows ++ x)).take (k + 1)).length = k + 1 from Poly.take_len (by rw [LP.out]; omega))
        have hl1 := R140.out k q eq
        have HO9 := Lib.hid (show RowOff wr (Value.slice A3 k c3).ownBlock (.slice D q.length d) q from ⟨D, d, rfl, lq, by omega, qq.below HB.out, fun hne a ha => by
          have hlo : a.block < w7.heap.size := reads_lt qq hne a ha
          exact ⟨fun e => by have := (HT.out.lt _ e.symm).1; omega, Nat.lt_of_lt_of_le hlo HB.out.size⟩⟩)
        have HS9 := Lib.hid HB.out.size
        have NX := Lib.hid (show (numbered (rows ++ x)).take (k + 1) = (numbered (rows ++ x)).take k ++ [((k : Int), q)] from Poly.take_next (by rw [numbered_at, eq]; rfl))
        clear eq qq hl1 cq
        go_wp2_with (at_builtin; refine wpList_append_pc rfl (.tmp 46) (.tmp 50) rfl rfl rfl HT.out HO9.out ?c3 HS9.out HB.out (Nat.le_refl _) ?_)
        case c3 => rw [LK.out]; omega
        intro v' w5 hT5 hB5
        have hT5' := hT5.out
        rw [← NX.out] at hT5'
        obtain ⟨A5, c5, hv, _, _⟩ := hT5'.form
        rw [LK1.out] at hv
        subst hv
        have HT5 := Lib.hid hT5'
        have HB5 := Lib.hid hB5
        clear hT5 hT5' hB5
        go_wp2
        go_roundw
        case rel => exact ⟨k + 1, A5, c5, by omega, by go_num, rfl, HT5.out, HB5.out⟩
        case measure => simp [intOf]; omega
      · obtain rfl : k = n + m' := by omega
        have hps : (numbered (rows ++ x)).take (n + m') = numbered (rows ++ x) := List.take_of_length_le (by rw [LP.out]; exact Nat.le_refl _)
        have hT := HT.out
        rw [hps] at hT
        obtain ⟨g3, rfl, hL⟩ := plist_of hT (by rw [LP.out]; omega)
        have HL := Lib.hid hL
        have CO := Lib.hid (numbered_coded (rows ++ x))
        clear hps hT hL
        go_wp2
        rw [show n + m' = (numbered (rows ++ x)).length from LP.out.symm]
        go_loopw [9, 55] (fun s i wr => ∃ (j g cap : Nat) (ps : List Pc), j ≤ zs.length ∧ i = .int .i64 j ∧ s = .slice (some ⟨g, 0, none⟩) ps.length cap ∧ PList wr w7.heap.size g cap ps ∧ Coded (rows ++ x) ps ∧ n ≤ ps.length ∧ ps.length ≤ n + m' ∧ Below w7.heap.size w7 wr) (fun _ i _ => zs.length - (intOf i).toNat)
        case atStart => exact ⟨0, g3, c3, numbered (rows ++ x), by omega, rfl, rfl, HL.out, CO.out, by rw [LP.out]; omega, by rw [LP.out]; omega, HB.out⟩
        case round =>
          obtain ⟨j, g, cap, ps, hj, rfl, rfl, hL, hC, hn1, hn2, hB9⟩ := hrel
          have HL9 := Lib.hid hL
          have HC9 := Lib.hid hC
          have HB9 := Lib.hid hB9
          have N1 := Lib.hid hn1
          have N2 := Lib.hid hn2
          clear hL hC hB9
          generalize hlen : ps.length = len at *
          have HLEN := Lib.hid hlen
          clear hlen
          by_cases hlt : j < zs.length
          · have hzj : (zs.map (Value.int .i64))[j]? = some (.int .i64 zs[j]) := by rw [List.getElem?_map, List.getElem?_eq_getElem hlt]; rfl
            obtain ⟨b5, o5, rfl, _, cz⟩ := (HP.out.below (B7.out.trans (HB9.out.mono B7.out.size))) j _ hzj
            have wz := WZ.out zs[j] (List.getElem_mem hlt)
            generalize hz0 : zs[j] = z at *
            clear hz0 hzj
            by_cases k1 : z < 0
            · go_wp2
              go_roundw
              case rel => exact ⟨j + 1, g, cap, ps, by omega, by go_num, by rw [HLEN.out], HL9.out, HC9.out, by rw [HLEN.out]; exact N1.out, by rw [HLEN.out]; exact N2.out, HB9.out⟩
              case measure => simp [intOf]; omega
            · by_cases k2 : (len : Int) ≤ z
              · go_wp2
                go_roundw
                case rel => exact ⟨j + 1, g, cap, ps, by omega, by go_num, by rw [HLEN.out], HL9.out, HC9.out, by rw [HLEN.out]; exact N1.out, by rw [HLEN.out]; exact N2.out, HB9.out⟩
                case measure => simp [intOf]; omega
              · obtain ⟨k, rfl⟩ : ∃ k : Nat, z = k := ⟨z.toNat, by omega⟩
                have hk : k < len := by omega
                have hcap : len ≤ cap := by rw [← HLEN.out]; exact HL9.out.le
                have hmax := HL9.out.max
                have d1 : decide ((k : Int) < 0) = false := by rw [decide_eq_false_iff_not]; omega
                have d2 : decide ((len : Int) ≤ (k : Int)) = false := by rw [decide_eq_false_iff_not]; omega
                clear k1 k2
                by_cases k3 : n < len
                · have i3 : (n : Int) < (len : Int) := by omega
                  go_wp2
                  have e1 : ((k : Int) + 1).toNat = k + 1 := by omega
                  have f1 : (0 : Int) ≤ (k : Int) := by omega
                  have f2 : (k : Int) ≤ (k : Int) := by omega
                  have f3 : (k : Int) ≤ (cap : Int) := by omega
                  have f4 : (0 : Int) ≤ (k : Int) + 1 := by omega
                  have f5 : (k : Int) + 1 ≤ (len : Int) := by omega
                  have e2 : IntKind.i64.wrap ((k : Int) + 1) = (k : Int) + 1 := IntWalk.i64_in _ (by omega)
                  refine Mem.region_tail 8 (by kernel_rfl) (by kernel_rfl) ?_
                  simp only [List.take_succ_cons, List.take_zero, List.drop_succ_cons, List.drop_zero]
                  repeat still_step
                  refine wpStill_nil ?_
                  have HS9 := Lib.hid (show w7.heap.size ≤ wr.drew.heap.size from HB9.out.size)
                  have HD9 := Lib.hid (show PList wr.drew w7.heap.size g cap ps from HL9.out.below (below_drew (Below.refl _ _)))
                  have HW9 := Lib.hid (show Below w7.heap.size w7 wr.drew from below_drew HB9.out)
                  refine append_out rfl (.tmp 75) (.tmp 79) rfl HLEN.out rfl rfl HD9.out hk (by have := N2.out; omega) HW9.out HS9.out ?_
                  intro g' cap' w' hL5 hB5
                  clear e1 e2 f1 f2 f3 f4 f5
                  go_wp2
                  go_roundw
                  case rel => exact ⟨j + 1, g', cap', without ps k, by omega, by go_num, by rw [without_len (by rw [HLEN.out]; exact hk), HLEN.out], hL5.out, without_coded k HC9.out, by rw [without_len (by rw [HLEN.out]; exact hk), HLEN.out]; omega, by rw [without_len (by rw [HLEN.out]; exact hk), HLEN.out]; have := N2.out; omega, hB5.out⟩
                  case measure => simp [intOf]; omega
                · have i3 : ¬ (n : Int) < (len : Int) := by omega
                  have h0 : 0 < len := by omega
                  obtain ⟨p0, hp0⟩ : ∃ p, ps[0]? = some p := ⟨_, List.getElem?_eq_getElem (by rw [HLEN.out]; exact h0)⟩
                  obtain ⟨pk, hpk⟩ : ∃ p, ps[k]? = some p := ⟨_, List.getElem?_eq_getElem (by rw [HLEN.out]; exact hk)⟩
                  obtain ⟨ca0, u0, cb0, C0, cc0, rfl, ro0⟩ := HL9.out.at_ 0 p0 hp0
                  obtain ⟨cak, uk, cbk, Ck, cck, rfl, rok⟩ := HL9.out.at_ k pk hpk
                  rw [Nat.zero_mul] at ca0 cb0
                  have fr : ∀ j, j < cap * 2 → wr.frozen? ⟨g, j, none⟩ = false := fun j hj => (HL9.out.there j hj).2
                  have fr0 := fr 0 (by omega)
                  have fr1 := fr 1 (by omega)
                  have frk := fr (k * 2) (by omega)
                  have frk1 := fr (k * 2 + 1) (by omega)
                  have RO0 := Lib.hid (show RowOff wr (some g) (.slice C0 p0.2.length cc0) p0.2 from ⟨C0, cc0, rfl, ro0⟩)
                  have ROK := Lib.hid (show RowOff wr (some g) (.slice Ck pk.2.length cck) pk.2 from ⟨Ck, cck, rfl, rok⟩)
                  have HP0 := Lib.hid hp0
                  have HPK := Lib.hid hpk
                  clear ro0 rok hp0 hpk fr
                  have SW := Lib.hid (swapped_coded (k := k) HC9.out HP0.out HPK.out)
                  have PL := Lib.hid (((HL9.out.put (i := 0) (p := pk) (by rw [HLEN.out]; exact h0) ROK.out).put (i := k) (p := p0) (by rw [List.length_set, HLEN.out]; exact hk) (rowOff_put (rowOff_put RO0.out))).below (below_drew (Below.refl _ _)))
                  have BE := Lib.hid (below_drew ((((HB9.out.setCell (p := ⟨g, 0, none⟩) HL9.out.own (.int .i64 pk.1)).setCell (p := ⟨g, 1, none⟩) HL9.out.own (.slice Ck pk.2.length cck)).setCell (p := ⟨g, k * 2, none⟩) HL9.out.own (.int .i64 p0.1)).setCell (p := ⟨g, k * 2 + 1, none⟩) HL9.out.own (.slice C0 p0.2.length cc0)))
                  have SL := Lib.hid ((swapped_len ps k p0 pk).trans HLEN.out)
                  by_cases kz : k = 0
                  · subst kz
                    obtain rfl : p0 = pk := Option.some.inj (HP0.out.symm.trans HPK.out)
                    rw [Nat.zero_mul] at cak cbk
                    have e9 := cb0.symm.trans cbk
                    injection e9 with e9
                    injection e9 with e9a e9b e9c
                    subst e9a e9c
                    clear cak cbk frk frk1
                    go_wp2
                    go_region
                    go_wp2
                    go_roundw
                    case rel => exact ⟨j + 1, g, cap, swapped ps 0 p0 p0, by omega, by go_num, by rw [SL.out], PL.out, SW.out, by rw [SL.out]; exact N1.out, by rw [SL.out]; exact N2.out, BE.out⟩
                    case measure => simp [intOf]; omega
                  · go_wp2
                    go_region
                    go_wp2
                    go_roundw
                    case rel => exact ⟨j + 1, g, cap, swapped ps k p0 pk, by omega, by go_num, by rw [SL.out], PL.out, SW.out, by rw [SL.out]; exact N1.out, by rw [SL.out]; exact N2.out, BE.out⟩
                    case measure => simp [intOf]; omega
          · obtain rfl : j = zs.length := by omega
            have wf9 : ∀ k : Nat, k ≤ 200 → (Lit.int .i64 (k : Int)).wf = true := fun k hk => by
              simp [Lit.wf, IntKind.min, IntKind.max, IntKind.bits, IntKind.signed]; omega
            have sane : SanePs ps := ⟨by rw [HLEN.out]; have := N2.out; omega, fun p hp => by
              obtain ⟨p1, p2⟩ := HC9.out.2 p hp
              have p3 := (List.getElem?_eq_some_iff.1 p2).1
              rw [LA.out] at p3
              exact ⟨by rw [show p.1 = ((p.1.toNat : Nat) : Int) by omega]; exact wf9 _ (by omega), R140.out _ _ p2⟩⟩
            have hb := fun V (h : Pcs V (some ⟨g, 0, none⟩) ps) => HBK.out (some ⟨g, 0, none⟩) (n : Int) (m' : Int) ps cap V sane HL9.out.le (wf9 n (by omega)) (wf9 m' (by omega)) h
            have hr := fun V (h : Pcs V (some ⟨g, 0, none⟩) ps) => HR.out (some ⟨g, 0, none⟩) (n : Int) (m' : Int) ps cap V sane HL9.out.le (wf9 n (by omega)) (wf9 m' (by omega)) h
            rw [HLEN.out] at hb hr
            have BK := Lib.hid hb
            have RG := Lib.hid hr
            have PC := Lib.hid HL9.out.pcs
            have BW := Lib.hid (B7.out.trans (HB9.out.mono B7.out.size))
            clear hb hr sane wf9
            go_wp2_with fail
            refine (BK.out _ PC.out).mono ?_
            rintro e w5 ⟨A5, c5, o5, e5, rfl, hc5, hR5, hB5, hP5⟩
            obtain ⟨rfl, rfl⟩ := coded_back (by rw [HN.out]; exact hpos) (by rw [HN.out]; exact hn100) hm100 HE.out AD.out HC9.out (by rw [HN.out, HLEN.out]; exact N1.out) (by rw [HN.out]; exact hP5)
            have R5 := Lib.hid hR5
            have PC5 := Lib.hid (PC.out.below hB5)
            have BW5 := Lib.hid (BW.out.trans (hB5.mono BW.out.size))
            clear hR5 hB5 hP5
            go_wp2_with fail
            refine (RG.out _ PC5.out).mono ?_
            rintro e w6 ⟨b6, e6, rfl, hB6, hP6⟩
            obtain ⟨rfl, rfl⟩ := coded_good (by rw [HN.out]; exact hpos) (by rw [HN.out]; exact hn100) hm100 HE.out AD.out HC9.out (by rw [HN.out, HLEN.out]; exact N1.out) (by rw [HN.out]; exact hP6)
            have R6 := Lib.hid (R5.out.below hB6)
            have BW6 := Lib.hid (BW5.out.trans (hB6.mono BW5.out.size))
            have sa := same_c A5 A o5 o5 c5 ca (by rw [HN.out]; omega) (by rw [HN.out]; omega) w6 R6.out (HA.out.below BW6.out)
            rw [HN.out, beq_self_eq_true] at sa
            have SA := Lib.hid sa
            rw [HN.out]
            clear hB6 hP6 sa
            go_wp2_with fail
            refine SA.out.mono ?_
            rintro e w8 ⟨rfl, hd8⟩
            have B8 := Lib.hid (BW6.out.trans ((hd8.below _).mono BW6.out.size))
            clear hd8
            go_wp2
            go_ret
            exact ⟨rfl, B8.out⟩
theorem walk {H : Type} {enc : TypeId × Value → H} {base : Nat} {W : World} {v0 v2 : Value} {d0 d2 : DataW H} {p0 p2 : List MemPlace}
    (o0 : Value.okWide Try.prog W .any base 22 v0) (h0 : DataW.Trod enc Try.prog W 0 (fun _ => true) true 22 v0 d0 p0) (a1 : Int) (w1 : (Lit.int .i64 a1).wf = true) (o2 : Value.okWide Try.prog W .any base 37 v2) (h2 : DataW.Trod enc Try.prog W 0 (fun _ => true) true 37 v2 d2 p2)
    (hz : (DataW.weightsEach Try.prog [22, 3, 37] [d0, .lit (.int .i64 a1), d2]).all (· ≤ reachBytes) = true) :
    Calls Try.prog 5 #[v0, .int .i64 a1, v2] W (Law.Yes W) := by
  obtain ⟨A0, c0, l0, rfl, z0, k0, _, r0, s0⟩ := open_rowsZ Try.underlying22 Try.underlying33 Try.underlying5 (by kernel_rfl) (by kernel_rfl) (by kernel_rfl) (by kernel_rfl) o0 h0 hz (j := 0) rfl rfl
  obtain ⟨A2, c2, l2, rfl, z2, r2, k2, _, s2⟩ := open_i64sZ Try.underlying37 Try.underlying3 (by kernel_rfl) (by kernel_rfl) o2 h2 hz (j := 2) rfl rfl
  exact main more_c back_c right_c A0 A2 l0 l2 c0 c2 a1 W ⟨z0, s0⟩ w1 z2 s2 r0 r2
theorem own : ownKnob Try.prog.godebug = none := by kernel_rfl
theorem laid : laidOutB Try.prog = true := by kernel_rfl
theorem pars : ∀ t ∈ Try.f5.params.toList, Try.prog.readableRec t = true ∧ t < Try.prog.types.size := by
  have h : Try.f5.params.toList.all (fun t => Try.prog.readableRec t && decide (t < Try.prog.types.size)) = true := by kernel_rfl
  intro t ht; have := List.all_eq_true.1 h t ht; simpa using this
theorem calls (H : Type) (enc : TypeId × Value → H) (W : World) (base : Nat) (args : Array Value) (ds : List (DataW H)) (before : List MemPlace)
    (hval : ∀ (j : Nat) t v, Try.f5.params[j]? = some t → args[j]? = some v → Value.okWide Try.prog W .any base t v)
    (hA : DataW.TrodAll enc Try.prog W 0 (fun _ => true) true Try.f5.params.toList args.toList ds before) (hz : (DataW.weightsEach Try.prog Try.f5.params.toList ds).all (· ≤ reachBytes) = true) :
    Calls Try.prog 5 args W (Law.Yes W) := by
  rw [Try.params5] at hA hval hz
  obtain ⟨v0, vs0, d0, ds0, p0, q0, hargs, rfl, rfl, h0, r0⟩ := trodAll_cons hA
  obtain ⟨v1, vs1, d1, ds1, p1, q1, rfl, rfl, rfl, h1, r1⟩ := trodAll_cons r0
  obtain ⟨v2, vs2, d2, ds2, p2, q2, rfl, rfl, rfl, h2, r2⟩ := trodAll_cons r1
  obtain ⟨rfl, rfl, rfl⟩ := trodAll_nil r2
  obtain rfl : args = #[v0, v1, v2] := by cases args; simp_all
  obtain ⟨a1, rfl, rfl, rfl, w1⟩ := open_int Try.underlying3 (hval 1 3 v1 rfl rfl) h1
  exact walk (W := W) (hval 0 22 v0 rfl rfl) h0 a1 w1 (hval 2 37 v2 rfl rfl) h2 hz
theorem fnOf (H : Type) : ∀ ds : List (DataW H), ds.length = Try.f5.params.toList.length → Rows.coderAnySpec.fn H ds = { results := [.lit (.bool true)], args := ds } := by
  intro ds h
  have h : ds.length = 3 := h
  obtain _ | ⟨x0, ds⟩ := ds
  · simp at h
  obtain _ | ⟨x1, ds⟩ := ds
  · simp at h
  obtain _ | ⟨x2, ds⟩ := ds
  · simp at h
  obtain rfl : ds = [] := List.eq_nil_of_length_eq_zero (by simpa using h)
  rfl
set_option maxRecDepth 100000 in
theorem lifted (os : Os) (started : os.Started) (H : Type) (enc : TypeId × Value → H) :
    ReturnsInHanded {} Try.checked os 5 .any (Rows.coderAnySpec.pre6 enc Try.prog Try.f5 Rows.coderAnyRow.domain false) (Rows.coderAnySpec.post enc Try.prog Try.f5 false true false false) := by
  refine returnsInHanded_of_change_sized (C := Try.checked) own started (by kernel_rfl) Try.func5
    (ChangeSpec.witness6 (enc := enc) (C := Try.checked) false ⟨#[], #[.slice none 0 0, .int .i64 0, .slice none 0 0], []⟩ 8 (by kernel_rfl) (by kernel_rfl) (by kernel_rfl) (by kernel_rfl)) ?_
  intro W base args ds gs before hval hW _ hz _
  obtain ⟨p, q, hA, hV, rfl, hfz, hnd⟩ := id hW
  obtain ⟨rfl, rfl⟩ := trodVars_none hV
  simp only [List.append_nil] at hz
  have hz2 : (DataW.weightsEach Try.prog Try.f5.params.toList ds).all (· ≤ reachBytes) = true := hz
  exact Law.ending (C := Try.checked) (s := Rows.coderAnySpec) laid pars rfl Try.underlying4 rfl (fnOf H) hW (calls H enc W base args ds p hval hA hz2)
theorem over : Rows.coderAnyRow.holds Try.pinned (OpenSpec.ofChange Rows.coderAnySpec) :=
  OpenClaim.holds_of_wide 5 Try.f5 rfl rfl rfl rfl rfl rfl rfl ⟨rfl, rfl, rfl, rfl, rfl⟩ rfl rfl rfl rfl rfl (by kernel_rfl) Try.func5 (by kernel_rfl)
    (of_decide_eq_true (by kernel_rfl)) (by unfold Func.isWrapper; first | (rw [if_pos (by decide +kernel)]; kernel_rfl) | (rw [if_neg (by decide +kernel)]; exact ⟨rfl, rfl⟩))
    (fun os started H enc _ => lifted os started H enc)
theorem proved : Rows.CoderAnySaid := over
end Go.Proofs.Ytomhcjnhhdbhjaa.coderAny
