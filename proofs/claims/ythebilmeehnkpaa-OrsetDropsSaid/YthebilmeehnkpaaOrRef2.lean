/-
  The document's own answers of package orset: SameBag.
-/
import Derived.Test.YthebilmeehnkpaaOrRef
namespace Go.Proofs.Ythebilmeehnkpaa.Ors
set_option linter.unusedVariables false
set_option linter.unusedSimpArgs false
open Go.RowKit Mem Gt
open Jump (Gave equalZ_c)

theorem neq_tg (a b c a' b' c' : Int) (w : World) : (binOp .neq 37 (.agg #[.int .i64 a, .int .i64 b, .int .i64 c]) (.agg #[.int .i64 a', .int .i64 b', .int .i64 c'])).run Try.prog w = .ok (.bool (!(a == a' && b == b' && c == c'))) w := by
  have h0 : Try.prog.underlying 37 = some (.struct (Try.prog.fieldsOf 37)) := by kernel_rfl
  have h1 : Try.prog.stoodInHeld 37 = false := by kernel_rfl
  have h2 : Try.prog.fieldsOf 37 = #[⟨ "Who", 3, 0, false, "", "", 0⟩, ⟨ "N", 3, 1, false, "", "", 8⟩, ⟨ "Elem", 3, 2, false, "", "", 16⟩] := by kernel_rfl
  have hi := Try.underlying3
  rw [run_neq_struct, run_equalIn_agg _ _ _ _ _ h0 h1, h2]
  simp [Op.eqFields, go_sem, hi]
  cases h3 : a == a' <;> cases h4 : b == b' <;> cases h5 : c == c' <;> simp_all
theorem guard_tg (op : BinOp) (x y : Operand) (xs ys : Array Value) (w : World) : (eqGuard op 37 x y (.agg xs) (.agg ys)).run Try.prog w = .ok () w := run_eqGuard_agg w op _ x y xs ys (by kernel_rfl)
theorem beq3 {x y : Tg} : ((x.1 : Int) == y.1 && x.2.1 == y.2.1 && x.2.2 == y.2.2) = decide (x = y) := by
  obtain ⟨a, b, c⟩ := x
  obtain ⟨d, e, f⟩ := y
  rw [Bool.eq_iff_iff]
  simp [Prod.ext_iff, and_assoc]
theorem eq_take {α : Type} {xs ys : List α} {k : Nat} (h : xs.take k = ys.take k) {x : α} (hx : xs[k]? = some x) (hy : ys[k]? = some x) : xs.take (k + 1) = ys.take (k + 1) := by
  rw [List.take_add_one, List.take_add_one, h, hx, hy]
theorem ne_at {α : Type} {xs ys : List α} {k : Nat} {x y : α} (hx : xs[k]? = some x) (hy : ys[k]? = some y) (h : x ≠ y) : xs ≠ ys := fun e => h (by subst e; rw [hx] at hy; exact Option.some.inj hy)
set_option maxRecDepth 100000 in
set_option maxHeartbeats 32000000 in
theorem samebag_c (H S H2 S2 : Option Addr) (nh ch ns cs nh2 ch2 ns2 cs2 : Nat) (a b : Bg) (V : World) (h : HB V H S nh ch ns cs a) (h2 : HB V H2 S2 nh2 ch2 ns2 cs2 b) (r : Bool) (hr : decide (a = b) = r) :
    Calls Try.prog 13 #[.agg #[.slice H nh ch, .slice S ns cs], .agg #[.slice H2 nh2 ch2, .slice S2 ns2 cs2]] V (Gave (.bool r) V) := by
  have HR := Lib.hid hr
  obtain ⟨ah, as_⟩ := a
  obtain ⟨bh, bs⟩ := b
  have GA0 := (HG.new h rfl).alloc (.cells #[.slice H2 nh2 ch2, .slice S2 ns2 cs2] 25)
  have GB0 := HG.new (g := V.heap.size + 1) (h2.below (low_lit V (.cells #[.slice H nh ch, .slice S ns cs] 25))) (by simp)
  have BV := Lib.hid (show Below V.heap.size V ((V.alloc (.cells #[.slice H nh ch, .slice S ns cs] 25)).alloc (.cells #[.slice H2 nh2 ch2, .slice S2 ns2 cs2] 25)) from (low_lit V _).alloc (by simp) _)
  have GA := Lib.hid GA0
  have GB := Lib.hid GB0
  obtain ⟨z0, z1, -⟩ := GA0
  obtain ⟨y0, y1, -⟩ := GB0
  have LAH := Lib.hid h.lenH
  have LAS := Lib.hid h.lenS
  have LBH := Lib.hid h2.lenH
  have LBS := Lib.hid h2.lenS
  have q1 := h.bh
  have q2 := h.bs
  simp only at LAH LAS LBH LBS
  clear h h2 hr
  by_cases e1 : nh = nh2
  · subst e1
    by_cases e2 : ns = ns2
    · subst e2
      have n1 : ((nh : Int) != (nh : Int)) = false := by simp
      have n2 : ((ns : Int) != (ns : Int)) = false := by simp
      go_enter Try.func13, Try.ntmps13
      go_wp2_with fail
      go_loopw [26] (fun i wr => ∃ k : Nat, k ≤ nh ∧ i = .int .i64 k ∧ ah.take k = bh.take k ∧ Drawn ((V.alloc (.cells #[.slice H nh ch, .slice S ns cs] 25)).alloc (.cells #[.slice H2 nh ch2, .slice S2 ns cs2] 25)) wr) (fun i _ => nh - (Go.RowKit.intOf i).toNat)
      case atStart => exact ⟨0, by omega, rfl, rfl, Drawn.refl _⟩
      case round =>
        obtain ⟨k, hk, rfl, ht, hD⟩ := hrel
        have HT := Lib.hid ht
        have DD := Lib.hid hD
        clear z0 z1 y0 y1
        obtain ⟨z0, z1, hba⟩ := GA.out.below (hD.below _)
        obtain ⟨y0, y1, hbb⟩ := GB.out.below (hD.below _)
        by_cases hlt : k < nh
        · obtain ⟨⟨u0, u1, u2⟩, hu⟩ : ∃ x, ah[k]? = some x := ⟨_, List.getElem?_eq_getElem (by rw [LAH.out]; exact hlt)⟩
          obtain ⟨⟨v0, v1, v2⟩, hv⟩ : ∃ x, bh[k]? = some x := ⟨_, List.getElem?_eq_getElem (by rw [LBH.out]; exact hlt)⟩
          obtain ⟨b1, o1, rfl, _, x0, x1, x2⟩ := tg_at hba.has hu
          obtain ⟨b2, o2, rfl, _, w0, w1, w2⟩ := tg_at hbb.has hv
          have i1 : (k : Int) < (nh : Int) := by omega
          have ne := fun w => neq_tg u0 u1 u2 v0 v1 v2 w
          have gd := fun op x y w => guard_tg op x y #[.int .i64 u0, .int .i64 u1, .int .i64 u2] #[.int .i64 v0, .int .i64 v1, .int .i64 v2] w
          have B3 := beq3 (x := (u0, u1, u2)) (y := (v0, v1, v2))
          simp only at x0 x1 x2 w0 w1 w2 B3
          rw [B3] at ne
          have HU := Lib.hid hu
          have HV := Lib.hid hv
          clear ht hD hu hv hba hbb B3
          by_cases e : (u0, u1, u2) = (v0, v1, v2)
          · rw [decide_eq_true e] at ne
            have T2 := Lib.hid (eq_take HT.out HU.out (by rw [e]; exact HV.out))
            clear e
            go_upto_region 6 with fail
            go_quiet (fail)
            go_wp2
            go_roundw
            case rel => exact ⟨k + 1, by omega, by go_num, T2.out, DD.out.more _⟩
            case measure => simp [Go.RowKit.intOf]; omega
          · rw [decide_eq_false e] at ne
            have E := Lib.hid (show r = false by rw [← HR.out]; exact decide_eq_false (fun e' => ne_at HU.out HV.out e (by injection e')))
            clear e
            go_upto_region 6 with fail
            go_quiet (fail)
            go_wp2
            rw [E.out]
            go_ret
            exact ⟨rfl, BV.out.trans ((DD.out.more _).below _)⟩
        · obtain rfl : k = nh := by omega
          have TA := Lib.hid (show ah = bh by have := HT.out; rwa [List.take_of_length_le (Nat.le_of_eq LAH.out), List.take_of_length_le (Nat.le_of_eq LBH.out)] at this)
          clear ht hD hba hbb
          go_wp2_with fail
          clear z0 z1 y0 y1
          go_loopw [44] (fun i wr => ∃ j : Nat, j ≤ ns ∧ i = .int .i64 j ∧ as_.take j = bs.take j ∧ Drawn ((V.alloc (.cells #[.slice H k ch, .slice S ns cs] 25)).alloc (.cells #[.slice H2 k ch2, .slice S2 ns cs2] 25)) wr) (fun i _ => ns - (Go.RowKit.intOf i).toNat)
          case atStart => exact ⟨0, by omega, rfl, rfl, DD.out⟩
          case round =>
            obtain ⟨j, hj, rfl, ht, hD⟩ := hrel
            have HT2 := Lib.hid ht
            have D2 := Lib.hid hD
            obtain ⟨z0, z1, hba⟩ := GA.out.below (hD.below _)
            obtain ⟨y0, y1, hbb⟩ := GB.out.below (hD.below _)
            by_cases hlt : j < ns
            · obtain ⟨u, hu⟩ : ∃ x, as_[j]? = some x := ⟨_, List.getElem?_eq_getElem (by rw [LAS.out]; exact hlt)⟩
              obtain ⟨v, hv⟩ : ∃ x, bs[j]? = some x := ⟨_, List.getElem?_eq_getElem (by rw [LBS.out]; exact hlt)⟩
              obtain ⟨b1, o1, rfl, _, x0⟩ := int_at hba.saw hu
              obtain ⟨b2, o2, rfl, _, w0⟩ := int_at hbb.saw hv
              have i1 : (j : Int) < (ns : Int) := by omega
              have HU := Lib.hid hu
              have HV := Lib.hid hv
              clear ht hD hu hv hba hbb
              by_cases e : u = v
              · have T2 := Lib.hid (eq_take HT2.out HU.out (by rw [e]; exact HV.out))
                subst e
                have ne : (u != u) = false := by simp
                go_upto_region 12 with fail
                go_quiet (fail)
                go_wp2
                go_roundw
                case rel => exact ⟨j + 1, by omega, by go_num, T2.out, D2.out.more _⟩
                case measure => simp [Go.RowKit.intOf]; omega
              · have ne : (u != v) = true := by simpa using e
                have E := Lib.hid (show r = false by rw [← HR.out]; exact decide_eq_false (fun e' => ne_at HU.out HV.out e (by injection e')))
                clear e
                go_upto_region 12 with fail
                go_quiet (fail)
                go_wp2
                rw [E.out]
                go_ret
                exact ⟨rfl, BV.out.trans ((D2.out.more _).below _)⟩
            · obtain rfl : j = ns := by omega
              have E := Lib.hid (show r = true by
                rw [← HR.out]
                have h5 := HT2.out
                rw [List.take_of_length_le (Nat.le_of_eq LAS.out), List.take_of_length_le (Nat.le_of_eq LBS.out)] at h5
                exact decide_eq_true (by rw [TA.out, h5]))
              clear ht hD hba hbb
              go_wp2
              rw [E.out]
              go_ret
              exact ⟨rfl, BV.out.trans (D2.out.below _)⟩
    · have E := Lib.hid (show r = false by rw [← HR.out]; exact decide_eq_false (fun e' => e2 (by rw [← LAS.out, ← LBS.out]; injection e' with _ e3; rw [e3])))
      have n1 : ((nh : Int) != (nh : Int)) = false := by simp
      have n2 : ((ns : Int) != (ns2 : Int)) = true := by simp; omega
      rw [E.out]
      go_enter Try.func13, Try.ntmps13
      go_wp2
      go_ret
      exact ⟨rfl, BV.out⟩
  · have E := Lib.hid (show r = false by rw [← HR.out]; exact decide_eq_false (fun e' => e1 (by rw [← LAH.out, ← LBH.out]; injection e' with e3 _; rw [e3])))
    have n1 : ((nh : Int) != (nh2 : Int)) = true := by simp; omega
    rw [E.out]
    go_enter Try.func13, Try.ntmps13
    go_wp2
    go_ret
    exact ⟨rfl, BV.out⟩
end Go.Proofs.Ythebilmeehnkpaa.Ors
