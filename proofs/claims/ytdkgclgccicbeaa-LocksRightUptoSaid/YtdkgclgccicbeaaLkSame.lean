/-
  The document's own answers of package locks: SameLocks.
-/
import Derived.Test.YtdkgclgccicbeaaLkMem
import Derived.Deep.DeepCutAuto
namespace Go.Proofs.Ytdkgclgccicbeaa.Lk
set_option linter.unusedVariables false
set_option linter.unusedSimpArgs false
open Go.RowKit Mem Gt

/-- Some draws later. -/
def Drawn (W V : World) : Prop := ∃ q, V = W.drewN q
theorem Drawn.refl (W : World) : Drawn W W := ⟨0, rfl⟩
theorem Drawn.more {W V : World} (h : Drawn W V) (n : Nat) : Drawn W (V.drewN n) := by obtain ⟨q, rfl⟩ := h; exact ⟨q + n, by rw [World.drewN_drewN]⟩
theorem below_drewN {B : Nat} {a w : World} (h : Below B a w) (n : Nat) : Below B a (w.drewN n) := ⟨h.os, h.tape, h.output, h.size, h.block⟩
theorem Drawn.below {W V : World} (h : Drawn W V) (B : Nat) : Below B W V := by obtain ⟨q, rfl⟩ := h; exact below_drewN (Below.refl _ _) q
theorem eq_take {α : Type} {xs ys : List α} {k : Nat} (h : xs.take k = ys.take k) {x : α} (hx : xs[k]? = some x) (hy : ys[k]? = some x) : xs.take (k + 1) = ys.take (k + 1) := by
  rw [List.take_add_one, List.take_add_one, h, hx, hy]
theorem ne_at {α : Type} {xs ys : List α} {k : Nat} {x y : α} (hx : xs[k]? = some x) (hy : ys[k]? = some y) (h : x ≠ y) : xs ≠ ys := fun e => h (by subst e; rw [hx] at hy; exact Option.some.inj hy)
theorem neq_lo (a b c a' b' c' : Int) (w : World) : (binOp .neq 36 (.agg #[.int .i64 a, .int .i64 b, .int .i64 c]) (.agg #[.int .i64 a', .int .i64 b', .int .i64 c'])).run Try.prog w = .ok (.bool (!(a == a' && b == b' && c == c'))) w := by
  have h0 : Try.prog.underlying 36 = some (.struct (Try.prog.fieldsOf 36)) := by kernel_rfl
  have h1 : Try.prog.stoodInHeld 36 = false := by kernel_rfl
  have h2 : Try.prog.fieldsOf 36 = #[⟨ "Kind", 3, 0, false, "", "", 0⟩, ⟨ "Node", 3, 1, false, "", "", 8⟩, ⟨ "Key", 3, 2, false, "", "", 16⟩] := by kernel_rfl
  have hi := Try.underlying3
  rw [run_neq_struct, run_equalIn_agg _ _ _ _ _ h0 h1, h2]
  simp [Op.eqFields, go_sem, hi]
  cases h3 : a == a' <;> cases h4 : b == b' <;> cases h5 : c == c' <;> simp_all
theorem guard_lo (op : BinOp) (x y : Operand) (xs ys : Array Value) (w : World) : (eqGuard op 36 x y (.agg xs) (.agg ys)).run Try.prog w = .ok () w := run_eqGuard_agg w op _ x y xs ys (by kernel_rfl)
theorem beq3 {x y : LO} : ((x.1 : Int) == y.1 && x.2.1 == y.2.1 && x.2.2 == y.2.2) = decide (x = y) := by
  obtain ⟨a, b, c⟩ := x
  obtain ⟨a', b', c'⟩ := y
  rw [Bool.eq_iff_iff]
  simp only [Bool.and_eq_true, beq_iff_eq, decide_eq_true_iff, Prod.mk.injEq, and_assoc]
theorem rf {r : Bool} {p : Prop} (h : r = true ↔ p) (hp : ¬ p) : r = false := Bool.eq_false_iff.2 (fun e => hp (h.1 e))
/-- A lock in a box. -/
def lkV (k : Int) (a : Bool) (H S : Option Addr) (nh ch ns cs : Nat) : Array Value := #[.int .i64 k, .bool a, .slice H nh ch, .slice S ns cs]
theorem box_lk (w : World) (cs : Array Value) {v0 v1 v2 v3 : Value} (h : cs = #[v0, v1, v2, v3]) (t : TypeId) {U : World} (hb : Below (w.alloc (.cells cs t)).heap.size (w.alloc (.cells cs t)) U) :
    U.cell? ⟨w.heap.size, 0, none⟩ = some v0 ∧ U.cell? ⟨w.heap.size, 1, none⟩ = some v1 ∧ U.cell? ⟨w.heap.size, 2, none⟩ = some v2 ∧ U.cell? ⟨w.heap.size, 3, none⟩ = some v3 := by
  subst h
  have kn := (Known.made w t #[v0, v1, v2, v3]).later hb
  exact ⟨kn.cell 0, kn.cell 1, kn.cell 2, kn.cell 3⟩
set_option maxRecDepth 100000 in
set_option maxHeartbeats 8000000 in
theorem samelocks_c (A B : Option Addr) (a b : List Lc) (n m ca cb : Nat) (W : World) (hn : a.length = n) (hm : b.length = m) (hbig : n ≤ 1099511627776) (hx : LRds W A a) (hy : LRds W B b) (r : Bool) (hr : r = true ↔ a = b) :
    Calls Try.prog 11 #[.slice A n ca, .slice B m cb] W (Gave (.bool r) W) := by
  have HR := Lib.hid hr
  have HX := Lib.hid hx
  have HY := Lib.hid hy
  have HN := Lib.hid hn
  have HM := Lib.hid hm
  clear hx hy hn hm hr
  by_cases e : n = m
  · subst e
    have q1 : ((n : Int) != (n : Int)) = false := by simp
    go_enter Try.func11, Try.ntmps11
    go_wp2_with fail
    go_loopw [17] (fun i wr => ∃ k : Nat, k ≤ n ∧ i = .int .i64 k ∧ a.take k = b.take k ∧ Below W.heap.size W wr) (fun i _ => n - (Go.RowKit.intOf i).toNat)
    case atStart => exact ⟨0, by omega, rfl, rfl, Below.refl _ _⟩
    case round =>
      obtain ⟨k, hk, rfl, ht, hB⟩ := hrel
      obtain ⟨wo, rfl⟩ : ∃ wo : World, wo = wr := ⟨_, rfl⟩
      have HT := Lib.hid ht
      have BO := Lib.hid hB
      by_cases hlt : k < n
      · obtain ⟨⟨ka, aa, ha, wa⟩, hu⟩ : ∃ x, a[k]? = some x := ⟨_, List.getElem?_eq_getElem (by rw [HN.out]; exact hlt)⟩
        obtain ⟨⟨kb, ab, hb, wb⟩, hv⟩ : ∃ x, b[k]? = some x := ⟨_, List.getElem?_eq_getElem (by rw [HM.out]; exact hlt)⟩
        obtain ⟨b1, o1, H1, nh1, ch1, S1, ns1, cs1, rfl, l1, x0, x1, x2, x3, ix⟩ := (HX.out.below hB).at_ hu
        obtain ⟨b2, o2, H2, nh2, ch2, S2, ns2, cs2, rfl, l2, y0, y1, y2, y3, iy⟩ := (HY.out.below hB).at_ hv
        have i1 : (k : Int) < (n : Int) := by omega
        have HU := Lib.hid hu
        have HV := Lib.hid hv
        obtain ⟨-, -, lha, kha, rha, lwa, kwa, rwa_⟩ := ix
        obtain ⟨-, -, lhb, khb, rhb, lwb, kwb, rwb⟩ := iy
        simp only at kha kwa
        have qh : nh1 ≤ 9223372036854775807 := by omega
        have qw : ns1 ≤ 9223372036854775807 := by omega
        clear kha kwa khb kwb
        simp only at x0 x1 x2 x3 y0 y1 y2 y3 lha lwa lhb lwb rha rhb rwa_ rwb
        have QN := Lib.hid (fun x y : Int => fun h : x ≠ y => (show (x != y) = true by simpa using h))
        by_cases e0 : ka = kb
        rotate_left
        · have n0 : ((ka : Int) != kb) = true := by simpa using e0
          have E := Lib.hid (rf HR.out (fun e' => ne_at HU.out HV.out (fun e'' => e0 (by injection e'')) e'))
          clear ht hB hu hv e0
          go_wp2
          rw [E.out]
          go_ret
          exact ⟨rfl, (BO.out.alloc BO.out.size _).alloc (Nat.le_trans BO.out.size (by simp)) _⟩
        subst e0
        have n0 : ((ka : Int) != ka) = false := by simp
        by_cases e1 : aa = ab
        rotate_left
        · have E := Lib.hid (rf HR.out (fun e' => ne_at HU.out HV.out (fun e'' => e1 (by injection e'' with _ e''; injection e'')) e'))
          clear ht hB hu hv
          cases aa <;> cases ab
          · exact absurd rfl e1
          · clear e1
            go_wp2
            rw [E.out]
            go_ret
            exact ⟨rfl, (BO.out.alloc BO.out.size _).alloc (Nat.le_trans BO.out.size (by simp)) _⟩
          · clear e1
            go_wp2
            rw [E.out]
            go_ret
            exact ⟨rfl, (BO.out.alloc BO.out.size _).alloc (Nat.le_trans BO.out.size (by simp)) _⟩
          · exact absurd rfl e1
        subst e1
        have n1 : (aa != aa) = false := by simp
        by_cases e2 : nh1 = nh2
        rotate_left
        · have n2 : ((nh1 : Int) != (nh2 : Int)) = true := by simp; omega
          have E := Lib.hid (rf HR.out (fun e' => ne_at HU.out HV.out (fun e'' => e2 (by rw [← lha, ← lhb]; injection e'' with _ e''; injection e'' with _ e''; injection e'' with e'' _; rw [e''])) e'))
          clear ht hB hu hv e2
          go_wp2
          rw [E.out]
          go_ret
          exact ⟨rfl, (BO.out.alloc BO.out.size _).alloc (Nat.le_trans BO.out.size (by simp)) _⟩
        subst e2
        have n2 : ((nh1 : Int) != (nh1 : Int)) = false := by simp
        by_cases e3 : ns1 = ns2
        rotate_left
        · have n3 : ((ns1 : Int) != (ns2 : Int)) = true := by simp; omega
          have E := Lib.hid (rf HR.out (fun e' => ne_at HU.out HV.out (fun e'' => e3 (by rw [← lwa, ← lwb]; injection e'' with _ e''; injection e'' with _ e''; injection e'' with _ e''; rw [e''])) e'))
          clear ht hB hu hv e3
          go_wp2
          rw [E.out]
          go_ret
          exact ⟨rfl, (BO.out.alloc BO.out.size _).alloc (Nat.le_trans BO.out.size (by simp)) _⟩
        subst e3
        have n3 : ((ns1 : Int) != (ns1 : Int)) = false := by simp
        obtain ⟨w2, hw2⟩ : ∃ w2, (wo.alloc (.cells #[.int .i64 ka, .bool aa, .slice H1 nh1 ch1, .slice S1 ns1 cs1] 34)).alloc (.cells #[.int .i64 ka, .bool aa, .slice H2 nh1 ch2, .slice S2 ns1 cs2] 34) = w2 := ⟨_, rfl⟩
        have LW := Lib.hid (show Below wo.heap.size wo w2 from hw2 ▸ (low_lit wo _).alloc (by simp) _)
        have BX := Lib.hid (fun U (h : Below w2.heap.size w2 U) => box_lk wo _ rfl 34 (U := U) (by
          subst hw2
          exact (low_lit _ _).trans (h.mono (by simp))))
        have BY := Lib.hid (fun U (h : Below w2.heap.size w2 U) => box_lk (wo.alloc (.cells #[.int .i64 ka, .bool aa, .slice H1 nh1 ch1, .slice S1 ns1 cs1] 34)) _ rfl 34 (U := U) (by
          subst hw2
          exact h))
        rw [show (wo.alloc (.cells #[.int .i64 ka, .bool aa, .slice H1 nh1 ch1, .slice S1 ns1 cs1] 34)).heap.size = wo.heap.size + 1 by simp] at BY
        have RHA := Lib.hid rha
        have RHB := Lib.hid rhb
        have RWA := Lib.hid rwa_
        have RWB := Lib.hid rwb
        have LHA := Lib.hid lha
        have LHB := Lib.hid lhb
        have LWA := Lib.hid lwa
        have LWB := Lib.hid lwb
        clear ht hB hu hv rha rhb rwa_ rwb lha lhb lwa lwb
        obtain ⟨a0, a1, a2, a3⟩ := BX.out w2 (Below.refl _ _)
        obtain ⟨c0, c1, c2, c3⟩ := BY.out w2 (Below.refl _ _)
        go_wp2_with fail
        clear a0 a1 a2 a3 c0 c1 c2 c3 x0 x1 x2 x3 y0 y1 y2 y3
        go_loopw [59] (fun i wr => ∃ j : Nat, j ≤ nh1 ∧ i = .int .i64 j ∧ ha.take j = hb.take j ∧ Drawn w2 wr) (fun i _ => nh1 - (Go.RowKit.intOf i).toNat)
        case atStart => exact ⟨0, by omega, rfl, rfl, Drawn.refl _⟩
        case round =>
          obtain ⟨j, hj, rfl, ht, hD⟩ := hrel
          have HT1 := Lib.hid ht
          have DD := Lib.hid hD
          obtain ⟨a0, a1, a2, a3⟩ := BX.out _ (hD.below _)
          obtain ⟨c0, c1, c2, c3⟩ := BY.out _ (hD.below _)
          have LL := Lib.hid (LW.out.trans ((hD.below w2.heap.size).mono LW.out.size))
          by_cases hjt : j < nh1
          · obtain ⟨u, hu⟩ : ∃ x, ha[j]? = some x := ⟨_, List.getElem?_eq_getElem (by rw [LHA.out]; exact hjt)⟩
            obtain ⟨v, hv⟩ : ∃ x, hb[j]? = some x := ⟨_, List.getElem?_eq_getElem (by rw [LHB.out]; exact hjt)⟩
            obtain ⟨g1, p1, rfl, _, z0⟩ := int_at (RHA.out.below LL.out) hu
            obtain ⟨g2, p2, rfl, _, z1⟩ := int_at (RHB.out.below LL.out) hv
            have j1 : (j : Int) < (nh1 : Int) := by omega
            have HU1 := Lib.hid hu
            have HV1 := Lib.hid hv
            clear ht hD hu hv
            by_cases e : u = v
            · have T2 := Lib.hid (eq_take HT1.out HU1.out (by rw [e]; exact HV1.out))
              subst e
              have ne : (u != u) = false := by simp
              go_upto_region 12 with fail
              go_quiet (fail)
              go_wp2
              go_roundw
              case rel => exact ⟨j + 1, by omega, by go_num, T2.out, DD.out.more _⟩
              case measure => simp [Go.RowKit.intOf]; omega
            · have ne : (u != v) = true := by simpa using e
              have E := Lib.hid (rf HR.out (fun e' => ne_at HU.out HV.out (fun e'' => ne_at HU1.out HV1.out e (by injection e'' with _ e''; injection e'' with _ e''; injection e'')) e'))
              clear e
              go_upto_region 12 with fail
              go_quiet (fail)
              go_wp2
              rw [E.out]
              go_ret
              exact ⟨rfl, BO.out.trans ((LW.out.trans (((DD.out.more _).below w2.heap.size).mono LW.out.size)).mono BO.out.size)⟩
          · obtain rfl : j = nh1 := by omega
            have TA := Lib.hid (show ha = hb by have := HT1.out; rwa [List.take_of_length_le (Nat.le_of_eq LHA.out), List.take_of_length_le (Nat.le_of_eq LHB.out)] at this)
            clear ht hD
            go_wp2_with fail
            clear a0 a1 a2 a3 c0 c1 c2 c3
            go_loopw [77] (fun i wr => ∃ q : Nat, q ≤ ns1 ∧ i = .int .i64 q ∧ wa.take q = wb.take q ∧ Drawn w2 wr) (fun i _ => ns1 - (Go.RowKit.intOf i).toNat)
            case atStart => exact ⟨0, by omega, rfl, rfl, DD.out⟩
            case round =>
              obtain ⟨q, hq, rfl, ht, hD⟩ := hrel
              have HT2 := Lib.hid ht
              have D2 := Lib.hid hD
              obtain ⟨a0, a1, a2, a3⟩ := BX.out _ (hD.below _)
              obtain ⟨c0, c1, c2, c3⟩ := BY.out _ (hD.below _)
              have L2 := Lib.hid (LW.out.trans ((hD.below w2.heap.size).mono LW.out.size))
              by_cases hqt : q < ns1
              · obtain ⟨⟨u0, u1, u2⟩, hu⟩ : ∃ x, wa[q]? = some x := ⟨_, List.getElem?_eq_getElem (by rw [LWA.out]; exact hqt)⟩
                obtain ⟨⟨v0, v1, v2⟩, hv⟩ : ∃ x, wb[q]? = some x := ⟨_, List.getElem?_eq_getElem (by rw [LWB.out]; exact hqt)⟩
                obtain ⟨g1, p1, rfl, _, z0, z1, z2⟩ := lo_at (RWA.out.below L2.out) hu
                obtain ⟨g2, p2, rfl, _, t0, t1, t2⟩ := lo_at (RWB.out.below L2.out) hv
                have j1 : (q : Int) < (ns1 : Int) := by omega
                have ne := fun w => neq_lo u0 u1 u2 v0 v1 v2 w
                have gd := fun op x y w => guard_lo op x y #[.int .i64 u0, .int .i64 u1, .int .i64 u2] #[.int .i64 v0, .int .i64 v1, .int .i64 v2] w
                have B3 := beq3 (x := (u0, u1, u2)) (y := (v0, v1, v2))
                simp only at z0 z1 z2 t0 t1 t2 B3
                rw [B3] at ne
                have HU2 := Lib.hid hu
                have HV2 := Lib.hid hv
                clear ht hD hu hv B3
                by_cases e : (u0, u1, u2) = (v0, v1, v2)
                · rw [decide_eq_true e] at ne
                  have T2 := Lib.hid (eq_take HT2.out HU2.out (by rw [e]; exact HV2.out))
                  clear e
                  go_upto_region 18 with fail
                  go_quiet (fail)
                  go_wp2
                  go_roundw
                  case rel => exact ⟨q + 1, by omega, by go_num, T2.out, D2.out.more _⟩
                  case measure => simp [Go.RowKit.intOf]; omega
                · rw [decide_eq_false e] at ne
                  have E := Lib.hid (rf HR.out (fun e' => ne_at HU.out HV.out (fun e'' => ne_at HU2.out HV2.out e (by injection e'' with _ e''; injection e'' with _ e''; injection e'')) e'))
                  clear e
                  go_upto_region 18 with fail
                  go_quiet (fail)
                  go_wp2
                  rw [E.out]
                  go_ret
                  exact ⟨rfl, BO.out.trans ((LW.out.trans (((D2.out.more _).below w2.heap.size).mono LW.out.size)).mono BO.out.size)⟩
              · obtain rfl : q = ns1 := by omega
                have TB := Lib.hid (show wa = wb by have := HT2.out; rwa [List.take_of_length_le (Nat.le_of_eq LWA.out), List.take_of_length_le (Nat.le_of_eq LWB.out)] at this)
                have T3 := Lib.hid (eq_take HT.out HU.out (by rw [TA.out, TB.out]; exact HV.out))
                clear ht hD
                go_wp2
                go_roundw
                case rel => exact ⟨k + 1, by omega, by go_num, T3.out, BO.out.trans ((LW.out.trans ((D2.out.below w2.heap.size).mono LW.out.size)).mono BO.out.size)⟩
                case measure => simp [Go.RowKit.intOf]; omega
      · obtain rfl : k = n := by omega
        have E := Lib.hid (show r = true by
          have h5 := HT.out
          rw [List.take_of_length_le (Nat.le_of_eq HN.out), List.take_of_length_le (Nat.le_of_eq HM.out)] at h5
          exact HR.out.2 h5)
        clear ht hB
        go_wp2
        rw [E.out]
        go_ret
        exact ⟨rfl, BO.out⟩
  · have E := Lib.hid (rf HR.out (fun e' => e (by rw [← HN.out, ← HM.out, e'])))
    have q1 : ((n : Int) != (m : Int)) = true := by simp; omega
    rw [E.out]
    go_enter Try.func11, Try.ntmps11
    go_wp2
    go_ret
    exact ⟨rfl, Below.refl _ _⟩
end Go.Proofs.Ytdkgclgccicbeaa.Lk
