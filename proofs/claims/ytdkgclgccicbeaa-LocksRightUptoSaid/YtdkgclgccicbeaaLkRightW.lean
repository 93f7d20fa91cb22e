/-
  The law LocksRight over what it takes of the program.
-/
import Derived.Test.YtdkgclgccicbeaaLkEq
import Derived.Test.YtdkgclgccicbeaaLkSort
import Derived.Test.YtdkgclgccicbeaaLaw
import Derived.Deep.Cut
import Derived.Deep.CutRange
import Derived.Deep.DeepCutAuto
import Derived.Deep.RegionHeld3
namespace Go.Proofs.Ytdkgclgccicbeaa.Lk
set_option linter.unusedVariables false
set_option linter.unusedSimpArgs false
open Go.RowKit Mem Gt

/-- What a lock of the list is. -/
def Rt (y : Lc) : Prop := y.2.2.1 ≠ [] ∧ (y.2.1 = true → y.2.2.1.length = 1) ∧ (y.2.1 = false → ∀ w, y.2.2.2.head? = some w → w.1 = 2) ∧ (∀ w ∈ y.2.2.2, w.2.2 = y.1) ∧ (y.2.2.1 ++ y.2.2.2.map (·.2.1)).Nodup
theorem held_len (ops : List LO) {y : Lc} (h : y ∈ locks ops) : y.2.2.1.length ≤ ops.length ∧ y.2.2.2.length ≤ ops.length := by
  obtain ⟨_, e⟩ := mem_locks.1 h
  have := st_len y.1 ops
  rw [e]
  unfold lockOf
  simp only [List.length_map, List.length_take, List.length_drop]
  omega
theorem box_lk4' {w : World} (x : Int) (b : Bool) (u v : Value) : let w' := w.alloc (.cells #[.int .i64 x, .bool b, u, v] 34)
    w'.cell? ⟨w.heap.size, 0, none⟩ = some (.int .i64 x) ∧ w'.cell? ⟨w.heap.size, 1, none⟩ = some (.bool b) ∧ w'.cell? ⟨w.heap.size, 2, none⟩ = some u ∧ w'.cell? ⟨w.heap.size, 3, none⟩ = some v := by
  have kn := Known.made w 34 #[.int .i64 x, .bool b, u, v]
  exact ⟨kn.cell 0, kn.cell 1, kn.cell 2, kn.cell 3⟩
set_option maxRecDepth 100000 in
set_option maxHeartbeats 16000000 in
theorem right_w (hP : PlaySpec) (A : Option Addr) (l : List LO) (n ca : Nat) (W : World) (hn : l.length = n) (hbig : n ≤ 1048576) (hx : Reads W A (flat loE l)) (hf : FitOs l) :
    Calls Try.prog 4 #[.slice A n ca] W (Law.Yes W) := by
  obtain ⟨ls, hls⟩ : ∃ ls, locks l = ls := ⟨_, rfl⟩
  obtain ⟨kl, hkl⟩ : ∃ kl, ls.length = kl := ⟨_, rfl⟩
  have AL := Lib.hid (fun V => alive_c hP V)
  have P1 := Lib.hid (fun V (h : Below W.heap.size W V) => hP A l n ca V (errs l) ls kl hn (by omega) (hx.below h) hf rfl hls hkl)
  have RT := Lib.hid (show ∀ y ∈ ls, Rt y ∧ y.2.2.1.length ≤ 1048576 ∧ y.2.2.2.length ≤ 1048576 from fun y hy => by
    rw [← hls] at hy
    have := held_len l hy
    exact ⟨lock_right hy, by omega, by omega⟩)
  have RI := Lib.hid (show ls.Pairwise (fun a b => a.1 < b.1) from hls ▸ rise_locks l)
  have HKL := Lib.hid hkl
  clear hx hf hls hkl hn hbig
  go_enter Try.func4, Try.ntmps4
  go_wp2_with fail
  refine (AL.out _).mono ?_
  rintro e w1 ⟨rfl, hb⟩
  have B1 := Lib.hid hb
  have P2 := Lib.hid (P1.out w1 hb)
  clear hb P1 AL
  go_wp2_with fail
  refine P2.out.mono ?_
  rintro e w2 ⟨A2, c2, B2, d2, rfl, _, hkd, -, hL, hb⟩
  have BB2 := Lib.hid (B1.out.trans (hb.mono B1.out.size))
  have LL := Lib.hid hL.rds
  have i0 : kl ≤ 9223372036854775807 := Nat.le_trans hkd.1 hkd.2
  clear hL hb hkd P2
  go_wp2_with fail
  go_loopw [19] (fun i wr => ∃ k : Nat, k ≤ kl ∧ i = .int .i64 k ∧ Below w2.heap.size w2 wr) (fun i _ => kl - (intOf i).toNat)
  case atStart => exact ⟨0, by omega, rfl, Below.refl _ _⟩
  case round =>
    obtain ⟨k, hk, rfl, hB⟩ := hrel
    obtain ⟨w3, rfl⟩ : ∃ w : World, w = wr := ⟨_, rfl⟩
    have B3 := Lib.hid hB
    by_cases hlt : k < kl
    · obtain ⟨y, hy⟩ : ∃ y, ls[k]? = some y := ⟨_, List.getElem?_eq_getElem (by rw [HKL.out]; exact hlt)⟩
      obtain ⟨b, o, H, nh, ch, S, ns, cs, hB2, hbl, c0, c1, c2, c3, ix⟩ := (LL.out.below hB).at_ hy
      obtain ⟨⟨r1, r2, r3, r4, r5⟩, r6, r7⟩ := RT.out y (List.mem_of_getElem? hy)
      obtain ⟨y0, y1, y2, y3⟩ := y
      have hnh := ix.hasL
      have hns := ix.waitL
      have HR := Lib.hid ix.hasR
      have WR := Lib.hid ix.waitR
      simp only at c0 c1 c2 c3 hnh hns r1 r2 r3 r4 r5 r6 r7 HR WR
      obtain ⟨wb, hwb⟩ : ∃ w, w3.alloc (.cells #[.int .i64 y0, .bool y1, .slice H nh ch, .slice S ns cs] 34) = w := ⟨_, rfl⟩
      obtain ⟨x0, x1, x2, x3⟩ := box_lk4' (w := w3) y0 y1 (.slice H nh ch) (.slice S ns cs)
      obtain ⟨bx, hbx⟩ : ∃ b, w3.heap.size = b := ⟨_, rfl⟩
      have LB := Lib.hid (show Below w3.heap.size w3 wb from hwb ▸ low_lit w3 _)
      rw [hwb, hbx] at x0 x1 x2 x3
      have SK := Lib.hid (show ∀ w, Below wb.heap.size wb w → w.cell? ⟨bx, 0, none⟩ = some (.int .i64 y0) ∧ w.cell? ⟨bx, 1, none⟩ = some (.bool y1) ∧ w.cell? ⟨bx, 2, none⟩ = some (.slice H nh ch) ∧ w.cell? ⟨bx, 3, none⟩ = some (.slice S ns cs) from fun w hb =>
        ⟨(hb.cell (World.block_lt_of_cell? _ _ x0)).trans x0, (hb.cell (World.block_lt_of_cell? _ _ x1)).trans x1, (hb.cell (World.block_lt_of_cell? _ _ x2)).trans x2, (hb.cell (World.block_lt_of_cell? _ _ x3)).trans x3⟩)
      have i1 : (k : Int) < (kl : Int) := by omega
      have nz : nh ≠ 0 := fun e => r1 (List.eq_nil_of_length_eq_zero (by omega))
      have n0 : ((nh : Int) == 0) = false := by simp; omega
      have R2 := Lib.hid r2
      have R3 := Lib.hid r3
      have R4 := Lib.hid r4
      have R5 := Lib.hid r5
      have HNH := Lib.hid hnh
      have HNS := Lib.hid hns
      have i6 : nh ≤ 1048576 := by omega
      have i7 : ns ≤ 1048576 := by omega
      have BW := Lib.hid (show Below w2.heap.size w2 wb from hB.trans (LB.out.mono hB.size))
      have HY := Lib.hid hy
      have LL3 := Lib.hid (LL.out.below hB)
      subst hB2
      clear hB hy r1 r2 r3 r4 r5 r6 r7 hnh hns ix hbl
      go_upto_region 7 with fail
      go_cut [52] from 24 to 52 (fun v wx => v = .bool false ∧ ∃ j, wx = wb.drewN j)
      case first =>
        by_cases hk0 : k = 0
        · subst hk0
          cases y1 with
          | false =>
            go_quiet (fail)
            go_wp2
            go_meet
            exact ⟨rfl, _, rfl⟩
          | true =>
            have e1 : nh = 1 := by rw [← HNH.out]; exact R2.out rfl
            have n1 : ((nh : Int) != 1) = false := by simp [e1]
            clear e1
            go_quiet (fail)
            go_wp2
            go_meet
            exact ⟨rfl, _, rfl⟩
        · obtain ⟨m, hm⟩ : ∃ m, k = m + 1 := ⟨k - 1, by omega⟩
          obtain ⟨yp, hyp⟩ : ∃ y, ls[m]? = some y := ⟨_, List.getElem?_eq_getElem (by rw [HKL.out]; omega)⟩
          obtain ⟨b', o', Hp, nhp, chp, Sp, nsp, csp, e', _, p0, _, _, _, _⟩ := LL3.out.at_ hyp
          injection e' with e'
          injection e' with e1' e2'
          subst e1' e2'
          have hlt2 : yp.1 < y0 := by
            have h1 := (List.getElem?_eq_some_iff.1 hyp).1
            have h2 := (List.getElem?_eq_some_iff.1 HY.out).1
            have := (List.pairwise_iff_getElem.1 RI.out) m k h1 h2 (by omega)
            rw [(List.getElem?_eq_some_iff.1 hyp).2, (List.getElem?_eq_some_iff.1 HY.out).2] at this
            exact this
          obtain ⟨q0, hq0⟩ : ∃ q, q = yp.1 := ⟨_, rfl⟩
          rw [← hq0] at p0 hlt2
          have p0' := (LB.out.cell (World.block_lt_of_cell? _ _ p0)).trans p0
          have i3 : (m : Int) < (kl : Int) := by omega
          have i4 : (0 : Int) < (k : Int) := by omega
          have i4' : 0 < k := by omega
          have i4'' : decide (0 < k) = true := decide_eq_true i4'
          have i5' : ¬ y0 ≤ q0 := by omega
          have i5 : decide (y0 ≤ q0) = false := decide_eq_false (by omega)
          have w8 : IntKind.i64.wrap ((k : Int) - 1) = (m : Int) := by rw [show (k : Int) - 1 = (m : Int) by omega]; exact IntWalk.i64_in _ (by omega)
          clear hyp hq0 hlt2 p0 hm hk0
          cases y1 with
          | false =>
            go_quiet (fail)
            go_wp2
            go_meet
            exact ⟨rfl, _, rfl⟩
          | true =>
            have e1 : nh = 1 := by rw [← HNH.out]; exact R2.out rfl
            have n1 : ((nh : Int) != 1) = false := by simp [e1]
            clear e1
            go_quiet (fail)
            go_wp2
            go_meet
            exact ⟨rfl, _, rfl⟩
      case rest =>
        obtain ⟨rfl, j, hwc⟩ := hcut
        have B4 := Lib.hid (show Below wb.heap.size wb wc from hwc ▸ Mem.below_drewN (Below.refl _ _) j)
        obtain ⟨w4, rfl⟩ : ∃ w : World, w = wc := ⟨_, rfl⟩
        clear hwc x0 x1 x2 x3 c0 c1 c2 c3 hwb hbx
        obtain ⟨x0, x1, x2, x3⟩ := SK.out _ B4.out
        have W4 := Lib.hid (show Below w2.heap.size w2 w4 from BW.out.trans (B4.out.mono BW.out.size))
        have F4 := Lib.hid (show Below w3.heap.size w3 w4 from LB.out.trans (B4.out.mono LB.out.size))
        go_upto_region 9 with fail
        go_cut [69] from 53 to 69 (fun v wx => v = .bool false ∧ wx = w4)
        case first =>
          by_cases hs0 : ns = 0
          · subst hs0
            go_wp2
            go_meet
            exact ⟨rfl, rfl⟩
          · have i3 : (0 : Int) < (ns : Int) := by omega
            cases y1 with
            | true =>
              go_wp2
              go_meet
              exact ⟨rfl, rfl⟩
            | false =>
              obtain ⟨q, hq⟩ : ∃ q, y3[0]? = some q := ⟨_, List.getElem?_eq_getElem (by rw [HNS.out]; omega)⟩
              obtain ⟨gs, os, hS, _, u0, _, _⟩ := lo_at (WR.out.below F4.out) hq
              have e2 : q.1 = 2 := R3.out rfl q (by rw [List.head?_eq_getElem?]; exact hq)
              rw [e2] at u0
              subst hS
              simp only [Nat.zero_mul, Nat.add_zero] at u0
              clear hq e2
              go_wp2
              go_meet
              exact ⟨rfl, rfl⟩
        case rest =>
          obtain ⟨rfl, hwc⟩ := hcut
          rw [hwc]
          clear hwc wc
          have CZ := Lib.hid (clone_z H y2 nh ch w4 HNH.out (by omega) (HR.out.below F4.out))
          go_wp2_with (go_at_call 13; refine CZ.out.mono ?_; rintro e w5 ⟨A5, c5, rfl, hT, hb⟩; have T5 := Lib.hid hT; have B5 := Lib.hid hb; clear hT hb; obtain ⟨cz0, cz1, cz2, cz3⟩ := SK.out _ (B4.out.trans (B5.out.mono B4.out.size)); clear x0 x1 x2 x3)
          go_loopw [7, 76] (fun v7 i wr => ∃ (j m : Nat) (A7 : Option Addr) (c7 : Nat), j ≤ ns ∧ i = .int .i64 j ∧ v7 = .slice A7 m c7 ∧ m = nh + j ∧ ZTab wr w4.heap.size (.slice A7 m c7) (y2 ++ nodes (y3.take j)) ∧ Below w4.heap.size w4 wr) (fun _ i _ => ns - (intOf i).toNat)
          case atStart => exact ⟨0, nh, A5, c5, by omega, rfl, rfl, rfl, by simpa [nodes] using T5.out, B5.out⟩
          case round =>
            obtain ⟨j, m, A7, c7, hj, rfl, rfl, hm, hT, hB⟩ := hrel
            clear cz0 cz1 cz2 cz3
            have HM := Lib.hid hm
            have i4 : m ≤ 2097152 := by omega
            clear hm
            by_cases hjl : j < ns
            · obtain ⟨q, hq⟩ : ∃ q, y3[j]? = some q := ⟨_, List.getElem?_eq_getElem (by rw [HNS.out]; exact hjl)⟩
              obtain ⟨gs, os, hS, _, v0, v1, v2⟩ := lo_at (WR.out.below (F4.out.trans (hB.mono F4.out.size))) hq
              have hk2 := R4.out q (List.mem_of_getElem? hq)
              obtain ⟨qa, qb, qc⟩ := q
              have hk2 : qc = y0 := hk2
              subst hk2
              obtain ⟨z0, z1, z2⟩ := box_lo (w := wr) (qa, qb, qc)
              obtain ⟨t0, t1, t2, t3⟩ := SK.out _ (B4.out.trans ((hB.alloc hB.size (.cells #[.int .i64 qa, .int .i64 qb, .int .i64 qc] 36)).mono B4.out.size))
              have EF := Lib.hid (show y2 ++ nodes (y3.take (j + 1)) = (y2 ++ nodes (y3.take j)) ++ [qb] by rw [List.take_add_one, hq, nodes_app, List.append_assoc]; rfl)
              have TB := Lib.hid (hT.alloc (.cells #[.int .i64 qa, .int .i64 qb, .int .i64 qc] 36))
              have BB := Lib.hid (hB.alloc hB.size (.cells #[.int .i64 qa, .int .i64 qb, .int .i64 qc] 36))
              have LN := Lib.hid (show (y2 ++ nodes (y3.take j)).length = m by rw [List.length_append, HNH.out]; unfold nodes; rw [List.length_map, List.length_take, HNS.out]; have := HM.out; omega)
              have i3 : (j : Int) < (ns : Int) := by omega
              have nq : (qc != qc) = false := by simp
              simp only at v0 v1 v2 z0 z1 z2
              subst hS
              clear hq hT hB
              go_wp2_with (at_builtin; refine wpList_append_z (w := wr.alloc (.cells #[.int .i64 qa, .int .i64 qb, .int .i64 qc] 36)) (sz := wr.heap.size + 1) rfl _ _ (by rfl) (by rfl) (by rfl) (by simp) TB.out LN.out (by omega) BB.out.size BB.out (Nat.le_refl _) ?_; intro A9 c9 w9 T9 G9 B9)
              go_roundw
              case rel => exact ⟨j + 1, m + 1, A9, c9, by omega, by go_num, rfl, by have := HM.out; omega, by rw [EF.out]; exact T9.out, B9.out⟩
              case measure => simp [intOf]; omega
            · obtain rfl : j = ns := by omega
              have EL := Lib.hid (show y3.take j = y3 from List.take_of_length_le (Nat.le_of_eq HNS.out))
              rw [EL.out] at hT
              obtain ⟨A7', c7', e7, p1, p2⟩ := hT.form
              have LN := Lib.hid (show (y2 ++ nodes y3).length = m by rw [List.length_append, HNH.out]; unfold nodes; rw [List.length_map, HNS.out]; have := HM.out; omega)
              injection e7 with e71 e72 e73
              subst e71 e73
              rw [LN.out] at p1
              have SC := Lib.hid (sort_z w4.heap.size A7 (y2 ++ nodes y3) m c7 wr LN.out (by omega) hT hB.size)
              have BB := Lib.hid hB
              have P1 := Lib.hid p1
              have wn : IntKind.i64.wrap ((nh : Int) + (j : Int)) = (m : Int) := by rw [show (nh : Int) + (j : Int) = (m : Int) by have := HM.out; omega]; exact IntWalk.i64_in _ (by omega)
              clear hT hB e72 p1 p2
              go_wp2_with (go_at_call 14; refine SC.out.mono ?_; rintro e w8 ⟨rfl, hS, hb⟩; have S8 := Lib.hid hS; have B8 := Lib.hid (BB.out.trans hb); clear hS hb)
              have BD := Lib.hid (show Below w4.heap.size w4 w8.drew from Mem.below_drew B8.out)
              have CC := Lib.hid (compact_c w4.heap.size A7 (y2 ++ nodes y3) m c7 w8.drew LN.out (by omega) P1.out S8.out.drew R5.out)
              have CD := Lib.hid (SK.out _ (B4.out.trans (BD.out.mono B4.out.size)))
              have nq : ((m : Int) != (m : Int)) = false := by simp
              go_cut [103] from 93 to 103 (fun v wx => v = .bool false ∧ Below w4.heap.size w4 wx)
              case first =>
                go_region_held3 (fun w : World => w.cell? ⟨bx, 0, none⟩ = some (.int .i64 y0) ∧ w.cell? ⟨bx, 1, none⟩ = some (.bool y1) ∧ w.cell? ⟨bx, 2, none⟩ = some (.slice H nh ch) ∧ w.cell? ⟨bx, 3, none⟩ = some (.slice S j cs)) (first | exact CD.out | exact CE.out | go_keep)
                  (first | (go_at_call 15; refine CC.out.mono ?_; rintro e w9 ⟨rfl, hb⟩; have B9 := Lib.hid (show Below w4.heap.size w4 w9 from BD.out.trans hb); have CE := Lib.hid (SK.out _ (B4.out.trans (B9.out.mono B4.out.size))); clear hb))
                all_goals
                  go_wp2
                  go_meet
                  exact ⟨rfl, B9.out⟩
              case rest =>
                obtain ⟨rfl, hb⟩ := hcut
                have BZ := Lib.hid hb
                clear hb
                go_wp2_with fail
                go_roundw
                case rel => exact ⟨k + 1, by omega, by go_num, W4.out.trans (BZ.out.mono W4.out.size)⟩
                case measure => simp [intOf]; omega
    · obtain rfl : k = kl := by omega
      clear hB
      go_wp2_with fail
      go_ret
      exact ⟨rfl, BB2.out.trans (B3.out.mono BB2.out.size)⟩
end Go.Proofs.Ytdkgclgccicbeaa.Lk
