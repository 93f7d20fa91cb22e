/-
  The document's own answers of package orset: QRight.
-/
import Derived.Test.YthebilmeehnkpaaOrMem
import Derived.Deep.Cut
import Derived.Deep.DeepCutAuto
import Derived.Deep.CutRange
namespace Go.Proofs.Ythebilmeehnkpaa.Ors
set_option linter.unusedVariables false
set_option linter.unusedSimpArgs false
open Go.RowKit Mem Gt
open Jump (Gave equalZ_c)

theorem all_step {α : Type} {p : α → Bool} {l : List α} {k : Nat} {x : α} (h : l[k]? = some x) : (l.take (k + 1)).all p = ((l.take k).all p && p x) := by
  rw [List.take_add_one, h, List.all_append]; simp
def lastT (l : List Tg) : Tg := l.getLast?.getD (-1, 0, 0)
theorem ok_step {s : List Int} {l : List Tg} {k : Nat} {x : Tg} (h : l[k]? = some x) : okFrom s (-1, 0, 0) (l.take (k + 1)) = (okFrom s (-1, 0, 0) (l.take k) && (okTag s x && klt (lastT (l.take k)) x)) ∧ lastT (l.take (k + 1)) = x := by
  rw [List.take_add_one, h]
  exact ⟨okFrom_snoc _ _ _, by unfold lastT; simp⟩
set_option maxRecDepth 100000 in
set_option maxHeartbeats 32000000 in
theorem qright_c (H S : Option Addr) (nh ch ns cs : Nat) (b : Bg) (V : World) (h : HB V H S nh ch ns cs b) : Calls Try.prog 15 #[.agg #[.slice H nh ch, .slice S ns cs]] V (Gave (.bool (okB b)) V) := by
  obtain ⟨W1, hW1⟩ : ∃ W1, W1 = V.alloc (.cells #[.slice H nh ch, .slice S ns cs] tB) := ⟨_, rfl⟩
  have g0 : HG W1 V.heap.size H S nh ch ns cs b := by rw [hW1]; exact HG.new h rfl
  have BV := Lib.hid (show Below V.heap.size V W1 by rw [hW1]; exact low_lit V _)
  have GG := Lib.hid g0
  have HNH := Lib.hid h.lenH
  have HNS := Lib.hid h.lenS
  have bh := h.bh
  have bs := h.bs
  obtain ⟨has, saw⟩ := b
  simp only at HNH HNS
  obtain ⟨b4, hb4⟩ : ∃ b4, (decide (ns ≤ 16) && decide (nh ≤ 400)) = b4 := ⟨_, rfl⟩
  have HB4 := Lib.hid hb4
  have EQ := Lib.hid (show okB (has, saw) = (b4 && saw.all okX && okFrom saw (-1, 0, 0) has) by unfold okB; rw [← hb4]; simp only [HNH.out, HNS.out])
  obtain ⟨z0, z1, -⟩ := HG.new h rfl
  clear h hb4 g0
  go_enter Try.func15, Try.ntmps15
  go_upto_region 1 with fail
  go_cut [3] (fun v wx => v = .bool b4 ∧ wx = V.alloc (.cells #[.slice H nh ch, .slice S ns cs] tB))
  case first => as_aux_lemma =>
    by_cases h1 : ns ≤ 16
    · have q1 : decide (ns ≤ 16) = true := decide_eq_true h1
      have q2 : decide ((ns : Int) ≤ 16) = true := decide_eq_true (by omega)
      have E := HB4.out
      rw [q1, Bool.true_and] at E
      have q3 : decide ((nh : Int) ≤ 400) = b4 := by rw [← E]; exact decide_eq_decide.2 ⟨fun h => by omega, fun h => by omega⟩
      clear E
      go_wp2_with fail
      go_meet
      exact ⟨by first | rfl | rw [q3] | simp, rfl⟩
    · have q1 : decide (ns ≤ 16) = false := decide_eq_false h1
      have q2 : decide ((ns : Int) ≤ 16) = false := decide_eq_false (by omega)
      have E := Lib.hid (show false = b4 by have := HB4.out; rwa [q1, Bool.false_and] at this)
      go_wp2_with fail
      go_meet
      exact ⟨by rw [← E.out], rfl⟩
  case rest =>
    obtain ⟨rfl, hw⟩ := hcut
    clear z0 z1
    obtain rfl : wc = W1 := hw.trans hW1.symm
    obtain ⟨z0, z1, -⟩ := GG.out
    clear hw hW1
    go_wp2_with fail
    go_loopw [3, 22] (fun f i wr => ∃ (k : Nat) (c : Bool), k ≤ ns ∧ i = .int .i64 k ∧ f = .bool c ∧ c = (b4 && (saw.take k).all okX) ∧ wr = wc) (fun _ i _ => ns - (Go.RowKit.intOf i).toNat)
    case atStart => exact ⟨0, b4, by omega, rfl, rfl, by simp, by first | rfl | trivial⟩
    case round =>
      obtain ⟨k, c, hk, rfl, rfl, hc, hwr⟩ := hrel
      subst hwr
      have HC := Lib.hid hc
      by_cases hlt : k < ns
      · obtain ⟨x, hx⟩ : ∃ x, saw[k]? = some x := ⟨_, List.getElem?_eq_getElem (by rw [HNS.out]; exact hlt)⟩
        obtain ⟨b1, o1, rfl, _, y1⟩ := int_at GG.out.2.2.saw hx
        have SC := Lib.hid (show (b4 && (saw.take (k + 1)).all okX) = (c && okX x) by rw [all_step hx, hc, Bool.and_assoc])
        have i1 : (k : Int) < (ns : Int) := by omega
        clear hx hc
        cases c with
        | false =>
          go_wp2
          go_roundw
          case rel => exact ⟨k + 1, false, by omega, by go_num, rfl, by rw [SC.out]; rfl, by first | rfl | trivial⟩
          case measure => simp [Go.RowKit.intOf]; omega
        | true =>
          by_cases h1 : 0 ≤ x
          · have q1 : decide (0 ≤ x) = true := decide_eq_true h1
            obtain ⟨r, hr⟩ : ∃ r, decide (x ≤ 1099511627776) = r := ⟨_, rfl⟩
            have E := Lib.hid (show r = okX x by unfold okX; rw [q1, hr]; rfl)
            go_wp2
            go_roundw
            case rel => exact ⟨k + 1, r, by omega, by go_num, by first | rfl | rw [hr], by rw [SC.out, E.out]; rfl, by first | rfl | trivial⟩
            case measure => simp [Go.RowKit.intOf]; omega
          · have q1 : decide (0 ≤ x) = false := decide_eq_false h1
            have E := Lib.hid (show false = okX x by unfold okX; rw [q1]; rfl)
            go_wp2
            go_roundw
            case rel => exact ⟨k + 1, false, by omega, by go_num, rfl, by rw [SC.out, E.out]; rfl, by first | rfl | trivial⟩
            case measure => simp [Go.RowKit.intOf]; omega
      · obtain rfl : k = ns := by omega
        have HC2 := Lib.hid (show c = (b4 && saw.all okX) by rw [HC.out, List.take_of_length_le (Nat.le_of_eq HNS.out)])
        clear hc HC
        obtain ⟨g0, g1, -⟩ := GG.out.alloc (.cells #[.int .i64 (-1), .int .i64 0, .int .i64 0] tT)
        go_wp2_with fail
        clear g0 g1
        obtain ⟨wv, rfl⟩ : ∃ wv : World, wv = wr := ⟨_, rfl⟩
        go_loopw [3, 40] (fun f i wr => ∃ (j : Nat) (d : Bool) (p0 p1 p2 : Int), j ≤ nh ∧ i = .int .i64 j ∧ f = .bool d ∧ d = (c && okFrom saw (-1, 0, 0) (has.take j)) ∧ (p0, p1, p2) = lastT (has.take j) ∧ Known wr wv.heap.size tT #[.int .i64 p0, .int .i64 p1, .int .i64 p2] ∧ Below wv.heap.size wv wr) (fun _ i _ => nh - (Go.RowKit.intOf i).toNat)
        case atStart => exact ⟨0, c, -1, 0, 0, by omega, rfl, rfl, by simp [okFrom], rfl, Known.made _ _ _, low_lit _ _⟩
        case round =>
          obtain ⟨j, d, p0, p1, p2, hj, rfl, rfl, hd, hp, hK, hB⟩ := hrel
          obtain ⟨wo, rfl⟩ : ∃ wo : World, wo = wr := ⟨_, rfl⟩
          have HD := Lib.hid hd
          have BB := Lib.hid hB
          have GJ := GG.out.below hB
          obtain ⟨z0, z1, hbj⟩ := GJ
          by_cases hlt2 : j < nh
          · obtain ⟨⟨x0, x1, x2⟩, hx⟩ : ∃ x, has[j]? = some x := ⟨_, List.getElem?_eq_getElem (by rw [HNH.out]; exact hlt2)⟩
            obtain ⟨b1, o1, rfl, _, y0, y1, y2⟩ := tg_at hbj.has hx
            obtain ⟨s1, s2⟩ := ok_step (s := saw) hx
            rw [← hp] at s1
            have SC := Lib.hid (show (c && okFrom saw (-1, 0, 0) (has.take (j + 1))) = (d && (okTag saw (x0, x1, x2) && klt (p0, p1, p2) (x0, x1, x2))) by rw [s1, hd, Bool.and_assoc])
            have SL := Lib.hid s2
            have G2 := (show HG wo V.heap.size _ _ nh ch k cs (has, saw) from ⟨z0, z1, hbj⟩).alloc (.cells #[.int .i64 x0, .int .i64 x1, .int .i64 x2] tT)
            have HG2 := Lib.hid G2
            have HK0 := Lib.hid hK
            have K1 := hK.alloc (.cells #[.int .i64 x0, .int .i64 x1, .int .i64 x2] tT)
            have KT := Known.made wo tT #[.int .i64 x0, .int .i64 x1, .int .i64 x2]
            have HK1 := Lib.hid K1
            have HKT := Lib.hid KT
            have B1 := Lib.hid (hB.trans ((low_lit wo (.cells #[.int .i64 x0, .int .i64 x1, .int .i64 x2] tT)).mono hB.size))
            obtain ⟨g0, g1, -⟩ := G2
            have c0 := K1.cell 0
            have c1 := K1.cell 1
            have c2 := K1.cell 2
            have d0 := KT.cell 0
            have d1 := KT.cell 1
            have d2 := KT.cell 2
            have i1 : (j : Int) < (nh : Int) := by omega
            simp at c0 c1 c2 d0 d1 d2
            simp only at y0 y1 y2
            clear hx hd hp hB hK K1 KT s1 s2 hbj
            go_upto_region 11 with fail
            go_cut [3] from 44 to 73 (fun v wx => ∃ q, v = .bool (d && okTag saw (x0, x1, x2)) ∧ wx = (wo.alloc (.cells #[.int .i64 x0, .int .i64 x1, .int .i64 x2] tT)).drewN q)
            case first => as_aux_lemma =>
              cases d with
              | false =>
                go_quiet (fail)
                go_wp2_with fail
                go_meet
                exact ⟨_, rfl, rfl⟩
              | true =>
                by_cases h1 : 0 ≤ x0
                · have q1 : decide (0 ≤ x0) = true := decide_eq_true h1
                  obtain ⟨m, rfl⟩ : ∃ m : Nat, x0 = (m : Int) := ⟨x0.toNat, by omega⟩
                  by_cases h2 : (m : Int) < (k : Int)
                  · have q2 : decide ((m : Int) < (k : Int)) = true := decide_eq_true h2
                    have q2n : decide (m < k) = true := decide_eq_true (by omega)
                    by_cases h3 : 0 < x1
                    · have q3 : decide (0 < x1) = true := decide_eq_true h3
                      obtain ⟨y, hy⟩ : ∃ y, saw[m]? = some y := ⟨_, List.getElem?_eq_getElem (by rw [HNS.out]; omega)⟩
                      obtain ⟨b5, o5, rfl, _, y5⟩ := int_at HG2.out.2.2.saw hy
                      obtain ⟨r, hr⟩ : ∃ r, decide (x1 ≤ y) = r := ⟨_, rfl⟩
                      have E := Lib.hid (show r = okTag saw ((m : Int), x1, x2) by
                        unfold okTag sawAt
                        simp only [HNS.out, Int.toNat_natCast, List.getD_eq_getElem?_getD, hy, Option.getD_some]
                        rw [q1, q2, q3, hr]; rfl)
                      clear hy
                      go_quiet (fail)
                      go_wp2_with fail
                      go_meet
                      exact ⟨_, by rw [← E.out]; first | rfl | simp [hr], rfl⟩
                    · have q3 : decide (0 < x1) = false := decide_eq_false h3
                      have E := Lib.hid (show false = okTag saw ((m : Int), x1, x2) by
                        unfold okTag
                        simp only
                        rw [q3, Bool.and_false, Bool.false_and])
                      go_quiet (fail)
                      go_wp2_with fail
                      go_meet
                      exact ⟨_, by rw [← E.out]; rfl, rfl⟩
                  · have q2 : decide ((m : Int) < (k : Int)) = false := decide_eq_false h2
                    have q2n : decide (m < k) = false := decide_eq_false (by omega)
                    have E := Lib.hid (show false = okTag saw ((m : Int), x1, x2) by
                      unfold okTag
                      simp only [HNS.out]
                      rw [q2, Bool.and_false, Bool.false_and, Bool.false_and])
                    go_quiet (fail)
                    go_wp2_with fail
                    go_meet
                    exact ⟨_, by rw [← E.out]; rfl, rfl⟩
                · have q1 : decide (0 ≤ x0) = false := decide_eq_false h1
                  have E := Lib.hid (show false = okTag saw (x0, x1, x2) by
                    unfold okTag
                    simp only
                    rw [q1, Bool.false_and, Bool.false_and, Bool.false_and])
                  go_quiet (fail)
                  go_wp2_with fail
                  go_meet
                  exact ⟨_, by rw [← E.out]; rfl, rfl⟩
            case rest =>
              obtain ⟨q, rfl, hwc⟩ := hcut
              clear c0 c1 c2 d0 d1 d2 g0 g1 y0 y1 y2 z0 z1
              have K5 : Known wc wv.heap.size tT #[.int .i64 p0, .int .i64 p1, .int .i64 p2] := by rw [hwc]; exact HK1.out
              have T5 : Known wc wo.heap.size tT #[.int .i64 x0, .int .i64 x1, .int .i64 x2] := by rw [hwc]; exact HKT.out
              have B5 : Below wv.heap.size wv wc := by rw [hwc]; exact Mem.below_drewN B1.out _
              have NV : ¬ wo.heap.size = wv.heap.size := by
                have := HKT.out
                have h5 := BB.out.size
                intro e
                have h6 := HK1.out
                unfold Known at this h6
                rw [e] at this
                rw [this] at h6
                have h7 := (show Known wo wv.heap.size tT #[.int .i64 p0, .int .i64 p1, .int .i64 p2] from HK0.out).lt
                omega
              have KK := Lib.hid (((K5.put 0 (.int .i64 x0)).put 1 (.int .i64 x1)).put 2 (.int .i64 x2))
              have BK := Lib.hid (((B5.setCell (p := ⟨wv.heap.size, 0, none⟩) (Nat.le_refl _) (.int .i64 x0)).setCell (p := ⟨wv.heap.size, 1, none⟩) (Nat.le_refl _) (.int .i64 x1)).setCell (p := ⟨wv.heap.size, 2, none⟩) (Nat.le_refl _) (.int .i64 x2))
              have c0 := K5.cell 0
              have c1 := K5.cell 1
              have c2 := K5.cell 2
              have d0 := T5.cell 0
              have d1 := T5.cell 1
              have d2 := T5.cell 2
              have f0 := K5.free 0
              have f1 := K5.free 1
              have f2 := K5.free 2
              simp at c0 c1 c2 d0 d1 d2
              obtain ⟨e, he⟩ : ∃ e, (d && okTag saw (x0, x1, x2)) = e := ⟨_, rfl⟩
              have S2 := Lib.hid (show (c && okFrom saw (-1, 0, 0) (has.take (j + 1))) = (e && klt (p0, p1, p2) (x0, x1, x2)) by rw [SC.out, ← he, Bool.and_assoc])
              rw [he]
              clear he K5 T5 B5 hwc SC
              cases e with
              | false =>
                go_wp2
                go_roundw
                case rel => exact ⟨j + 1, false, x0, x1, x2, by omega, by go_num, rfl, by rw [S2.out]; rfl, SL.out.symm, KK.out, BK.out⟩
                case measure => simp [Go.RowKit.intOf]; omega
              | true =>
                by_cases k1 : p0 < x0
                · have r1 : decide (p0 < x0) = true := decide_eq_true k1
                  have E := Lib.hid (show true = klt (p0, p1, p2) (x0, x1, x2) by unfold klt; simp only; rw [r1]; rfl)
                  go_wp2
                  go_roundw
                  case rel => exact ⟨j + 1, true, x0, x1, x2, by omega, by go_num, rfl, by rw [S2.out, ← E.out]; rfl, SL.out.symm, KK.out, BK.out⟩
                  case measure => simp [Go.RowKit.intOf]; omega
                · have r1 : decide (p0 < x0) = false := decide_eq_false k1
                  by_cases k2 : x0 = p0
                  · subst k2
                    have r2 : (x0 == x0) = true := by simp
                    obtain ⟨r, hr⟩ : ∃ r, decide (p1 < x1) = r := ⟨_, rfl⟩
                    have E := Lib.hid (show r = klt (x0, p1, p2) (x0, x1, x2) by unfold klt; simp only; rw [r1, hr]; simp)
                    go_wp2
                    go_roundw
                    case rel => exact ⟨j + 1, r, x0, x1, x2, by omega, by go_num, by first | rfl | rw [hr], by rw [S2.out, ← E.out]; rfl, SL.out.symm, KK.out, BK.out⟩
                    case measure => simp [Go.RowKit.intOf]; omega
                  · have r2 : (x0 == p0) = false := by simpa using k2
                    have E := Lib.hid (show false = klt (p0, p1, p2) (x0, x1, x2) by
                      unfold klt
                      simp only
                      rw [r1, decide_eq_false (show ¬ p0 = x0 from fun e => k2 e.symm)]; rfl)
                    go_wp2
                    go_roundw
                    case rel => exact ⟨j + 1, false, x0, x1, x2, by omega, by go_num, rfl, by rw [S2.out, ← E.out]; rfl, SL.out.symm, KK.out, BK.out⟩
                    case measure => simp [Go.RowKit.intOf]; omega
          · obtain rfl : j = nh := by omega
            have E := Lib.hid (show okB (has, saw) = d by rw [EQ.out, HD.out, HC2.out, List.take_of_length_le (Nat.le_of_eq HNH.out)])
            clear hd hp hB hK hbj
            go_wp2
            rw [E.out]
            go_ret
            exact ⟨rfl, BV.out.trans (BB.out.mono BV.out.size)⟩
end Go.Proofs.Ythebilmeehnkpaa.Ors
