/-
  RingOrder: for all nodes and every number of tokens each, the law RingOrder answers true (a ring does not hang on the order of the nodes), and its arguments read afterwards as before. No condition.
-/
import Derived.Test.YtpnfcjodjgbdbaaRgFuncs
import Derived.Test.YtpnfcjodjgbdbaaRgGMake
import Derived.Test.YtpnfcjodjgbdbaaInts
namespace Go.Proofs.Ytpnfcjodjgbdbaa.ringOrder
open Go.ChangeShapes Go.WideShapes Go.ChangeAt Go.RowKit
open Mem Ring
set_option linter.unusedVariables false
set_option linter.unusedSimpArgs false

theorem errs {l : List Tk} {k : Int} {n : Nat} {W : World} {e : Ending} {W' : World} (hn : l.length = n) (h : RingErr l k W e W') : ∃ A c, e = .returned (.tuple #[.slice A n c, .int .i64 k]) ∧ TRds W' A l ∧ Below W.heap.size W W' := by
  subst hn; exact h
set_option maxRecDepth 100000 in
set_option maxHeartbeats 4000000 in
theorem bad (A : Option Addr) (ids : List Int) (n ca : Nat) (each : Int) (W : World) (e f : Int) (hn : ids.length = n) (hbig : n ≤ 17592186044416) (hx : Reads W A (ids.map (Value.int .i64)))
    (h1 : ∀ V, Below W.heap.size W V → Calls Try.prog 9 #[.slice A n ca, .int .i64 each] V (RingErr [] e V))
    (h2 : ∀ V A c, n ≤ c → Reads V A (ids.reverse.map (Value.int .i64)) → Calls Try.prog 9 #[.slice A n c, .int .i64 each] V (RingErr [] f V))
    (he : e = 2 ∨ e = 6) (hf : f = 2 ∨ f = 6) :
    Calls Try.prog 7 #[.slice A n ca, .int .i64 each] W (Law.Yes W) := by
  have H1 := Lib.hid h1
  have H2 := Lib.hid h2
  have HX := Lib.hid hx
  have HN := Lib.hid hn
  clear h1 h2 hx hn
  rcases he with rfl | rfl <;> rcases hf with rfl | rfl
  all_goals
    go_enter Try.func7, Try.ntmps7
    go_wp2_with fail
    refine (alive_c _).mono ?_
    rintro e w1 ⟨rfl, hb⟩
    have B1 := Lib.hid hb
    clear hb
    go_wp2_with fail
    refine (clone_z A ids n ca w1 HN.out hbig (HX.out.below B1.out)).mono ?_
    rintro e w2 ⟨A2, c2, rfl, hz, hb⟩
    obtain ⟨_, _, e4, l4, _⟩ := hz.form
    injection e4 with e5 e6 e7
    have C2 := Lib.hid (show n ≤ c2 by rw [e7]; omega)
    have Z2 := Lib.hid hz
    have S1 := Lib.hid B1.out.size
    have B2 := Lib.hid (B1.out.trans (hb.mono B1.out.size))
    have S12 := Lib.hid hb.size
    clear hz hb B1 e5 e6 e7 l4
    go_wp2_with fail
    refine (reverse_z w1.heap.size A2 ids n c2 w2 HN.out (by omega) Z2.out).mono ?_
    rintro e w3 ⟨rfl, hr, hb⟩
    have R3 := Lib.hid hr
    have B3 := Lib.hid (B2.out.trans (hb.mono S1.out))
    clear hr hb B2 Z2 S12
    go_wp2_with fail
    refine (H1.out _ B3.out).mono ?_
    intro e w4 h
    obtain ⟨A4, c4, rfl, hT, hb⟩ := errs (n := 0) rfl h
    have R4 := Lib.hid (R3.out.below hb)
    have B4 := Lib.hid (B3.out.trans (hb.mono B3.out.size))
    clear h hT hb B3 R3
    go_wp2_with fail
    refine (H2.out _ A2 c2 C2.out R4.out).mono ?_
    intro e w5 h
    obtain ⟨A5, c5, rfl, hT, hb⟩ := errs (n := 0) rfl h
    have B5 := Lib.hid (B4.out.trans (hb.mono B4.out.size))
    clear h hT hb B4 R4
    go_wp2
    go_ret
    exact ⟨rfl, B5.out⟩
def cnt (L : List Tk) (x : Int) (j : Nat) : Nat := (L.take j).countP (fun t => t.2 == x)
theorem cnt_yes {L : List Tk} {x : Int} {j : Nat} {t : Tk} (h : L[j]? = some t) (hx : t.2 = x) : cnt L x (j + 1) = cnt L x j + 1 := by
  unfold cnt; rw [List.take_add_one, h]; simp [hx]
theorem cnt_no {L : List Tk} {x : Int} {j : Nat} {t : Tk} (h : L[j]? = some t) (hx : t.2 ≠ x) : cnt L x (j + 1) = cnt L x j := by
  unfold cnt; rw [List.take_add_one, h]; simp [hx]
theorem cnt_le (L : List Tk) (x : Int) (j : Nat) : cnt L x j ≤ j := by
  unfold cnt; exact Nat.le_trans List.countP_le_length (List.length_take_le _ _)
set_option maxRecDepth 100000 in
set_option maxHeartbeats 8000000 in
theorem good (A : Option Addr) (ids : List Int) (n ca each la : Nat) (W : World) (L : List Tk) (hn : ids.length = n) (hbig : n ≤ 17592186044416) (hx : Reads W A (ids.map (Value.int .i64)))
    (h1 : ∀ V, Below W.heap.size W V → Calls Try.prog 9 #[.slice A n ca, .int .i64 each] V (RingErr L 0 V))
    (h2 : ∀ V A c, n ≤ c → Reads V A (ids.reverse.map (Value.int .i64)) → Calls Try.prog 9 #[.slice A n c, .int .i64 each] V (RingErr L 0 V))
    (hL : L.length = la) (hla : la = each * n) (hb4 : la ≤ 400) (he : each ≤ 20) (hn16 : n ≤ 16) (hR : Right L) (hc : ∀ x ∈ ids, L.countP (fun t => t.2 == x) = each) :
    Calls Try.prog 7 #[.slice A n ca, .int .i64 each] W (Law.Yes W) := by
  have H1 := Lib.hid h1
  have H2 := Lib.hid h2
  have HX := Lib.hid hx
  have HN := Lib.hid hn
  have HL := Lib.hid hL
  have HR := Lib.hid hR
  have HC := Lib.hid hc
  have hprod : (each : Int) * (n : Int) = (la : Int) := by rw [hla]; simp
  have PR := Lib.hid hprod
  clear h1 h2 hx hn hL hR hc hla hprod
  go_enter Try.func7, Try.ntmps7
  go_wp2_with fail
  refine (alive_c _).mono ?_
  rintro e w1 ⟨rfl, hb⟩
  have B1 := Lib.hid hb
  clear hb
  go_wp2_with fail
  refine (clone_z A ids n ca w1 HN.out hbig (HX.out.below B1.out)).mono ?_
  rintro e w2 ⟨A2, c2, rfl, hz, hb⟩
  obtain ⟨_, _, e4, l4, _⟩ := hz.form
  injection e4 with e5 e6 e7
  have C2 := Lib.hid (show n ≤ c2 by rw [e7]; omega)
  have Z2 := Lib.hid hz
  have S1 := Lib.hid B1.out.size
  have B2 := Lib.hid (B1.out.trans (hb.mono B1.out.size))
  clear hz hb B1 e5 e6 e7 l4
  go_wp2_with fail
  refine (reverse_z w1.heap.size A2 ids n c2 w2 HN.out (by omega) Z2.out).mono ?_
  rintro e w3 ⟨rfl, hr, hb⟩
  have R3 := Lib.hid hr
  have B3 := Lib.hid (B2.out.trans (hb.mono S1.out))
  clear hr hb B2 Z2
  go_wp2_with fail
  refine (H1.out _ B3.out).mono ?_
  intro e w4 h
  obtain ⟨A4, c4, rfl, hT, hb⟩ := errs HL.out h
  have R4 := Lib.hid (R3.out.below hb)
  have T4 := Lib.hid hT
  have B4 := Lib.hid (B3.out.trans (hb.mono B3.out.size))
  clear h hT hb B3 R3
  go_wp2_with fail
  refine (H2.out _ A2 c2 C2.out R4.out).mono ?_
  intro e w5 h
  obtain ⟨A5, c5, rfl, hT, hb⟩ := errs HL.out h
  have T5 := Lib.hid hT
  have T5' := Lib.hid (T4.out.below hb)
  have B5 := Lib.hid (B4.out.trans (hb.mono B4.out.size))
  have X5 := Lib.hid (HX.out.below (B4.out.trans (hb.mono B4.out.size)))
  clear h hT hb B4 R4 T4 H1 H2 HX S1 C2
  go_wp2
  go_loopw [46] (fun i wr => ∃ k : Nat, k ≤ n ∧ i = .int .i64 k ∧ Below w5.heap.size w5 wr) (fun i _ => n - (intOf i).toNat)
  case atStart => exact ⟨0, by omega, rfl, Below.refl _ _⟩
  case round =>
    obtain ⟨k, hk, rfl, hB⟩ := hrel
    have HB := Lib.hid hB
    by_cases hlt : k < n
    · have k1 : k < ids.length := by rw [HN.out]; exact hlt
      obtain ⟨b, o, rfl, _, x0⟩ := reads_z (X5.out.below hB) k1
      have CX := Lib.hid (HC.out ids[k] (List.getElem_mem k1))
      generalize hu : ids[k] = x at *
      have i1 : (k : Int) < (n : Int) := by omega
      obtain ⟨wo, rfl⟩ : ∃ w : World, w = wr := ⟨_, rfl⟩
      clear hu k1 hB
      go_wp2
      go_loopw [12, 52] (fun s12 i wr => ∃ j q : Nat, j ≤ la ∧ q ≤ j ∧ i = .int .i64 j ∧ s12 = .int .i64 q ∧ cnt L x j = q ∧ Below wo.heap.size wo wr) (fun _ i _ => la - (intOf i).toNat)
      case atStart => exact ⟨0, 0, by omega, by omega, rfl, rfl, rfl, Below.refl _ _⟩
      case round =>
        obtain ⟨j, q, hj, hq, rfl, rfl, hcq, hB2⟩ := hrel
        have HB2 := Lib.hid hB2
        have CQ := Lib.hid hcq
        by_cases hlj : j < la
        · have k2 : j < L.length := by rw [HL.out]; exact hlj
          obtain ⟨b2, o2, rfl, _, y0, y1⟩ := ((T5'.out.below HB.out).below hB2).tk k2
          have EX := Lib.hid (show L[j]? = some L[j] from List.getElem?_eq_getElem k2)
          generalize hv : L[j] = v at *
          obtain ⟨v0, v1⟩ := v
          have i2 : (j : Int) < (la : Int) := by omega
          obtain ⟨d0, d1⟩ := boxT wr (.int .u64 v0.toNat) (.int .i64 v1)
          have HBA := Lib.hid (show Below wo.heap.size wo (wr.alloc (.cells #[.int .u64 v0.toNat, .int .i64 v1] 31)) from hB2.alloc hB2.size _)
          clear hv k2 hB2 hcq
          by_cases e : v1 = x
          · have RN := Lib.hid (cnt_yes EX.out e)
            have n1 : (v1 == x) = true := by simp [e]
            clear e
            go_wp2
            go_roundw
            case rel => exact ⟨j + 1, q + 1, by omega, by omega, by go_num, by go_num, by rw [RN.out, CQ.out], HBA.out⟩
            case measure => simp [intOf]; omega
          · have RN := Lib.hid (cnt_no EX.out e)
            have n1 : (v1 == x) = false := by simp [e]
            clear e
            go_wp2
            go_roundw
            case rel => exact ⟨j + 1, q, by omega, by omega, by go_num, rfl, by rw [RN.out, CQ.out], HBA.out⟩
            case measure => simp [intOf]; omega
        · obtain rfl : j = la := by omega
          obtain rfl : q = each := by
            have h1 := CQ.out
            unfold cnt at h1
            rw [List.take_of_length_le (by rw [HL.out]; omega), CX.out] at h1
            exact h1.symm
          have HB3 := Lib.hid (HB.out.trans (HB2.out.mono HB.out.size))
          clear hB2 hcq
          go_wp2
          go_roundw
          case rel => exact ⟨k + 1, by omega, by go_num, HB3.out⟩
          case measure => simp [intOf]; omega
    · obtain rfl : k = n := by omega
      have EQ := Lib.hid (equalTk_c A4 A5 L L la la c4 c5 wr HL.out HL.out (by omega) (T5'.out.below hB) (T5.out.below hB))
      rw [eqTk_self] at EQ
      have RT := Lib.hid (fun V (hb : Below w5.heap.size w5 V) => right_yes A4 L la c4 V HL.out (T5'.out.below hb) HR.out)
      have hprod := PR.out
      clear hB
      go_wp2_with (first | (go_at_call 12; refine EQ.out.mono ?_; rintro e w7 ⟨rfl, hb⟩; have B7 := Lib.hid (HB.out.trans (hb.mono HB.out.size)); clear hb) | (go_at_call 13; refine (RT.out _ B7.out).mono ?_; rintro e w8 ⟨rfl, hb⟩; have B8 := Lib.hid (B7.out.trans (hb.mono B7.out.size)); clear hb))
      go_ret
      exact ⟨rfl, B5.out.trans (B8.out.mono B5.out.size)⟩
theorem words (A : Option Addr) (ids : List Int) (n ca : Nat) (each : Int) (W : World) (hn : ids.length = n) (hca : n ≤ ca) (hbig : n ≤ 17592186044416) (hx : Reads W A (ids.map (Value.int .i64))) :
    Calls Try.prog 7 #[.slice A n ca, .int .i64 each] W (Law.Yes W) := by
  have hmax : n ≤ maxLen := by unfold maxLen; omega
  have h1 := fun V (hb : Below W.heap.size W V) => make_c A ids n ca each V hn hca hmax (hx.below hb)
  have h2 := fun V A2 c2 (hc : n ≤ c2) (hr : Reads V A2 (ids.reverse.map (Value.int .i64))) => make_c A2 ids.reverse n c2 each V (by rw [List.length_reverse]; exact hn) hc hmax hr
  by_cases h : makeE ids each = 0
  · have h' := (makeE_reverse ids each).2 h
    obtain ⟨g1, g2, g3⟩ := makeE_zero.1 h
    rw [hn] at g1
    obtain ⟨k1, k2, k3⟩ := size_no g1
    obtain ⟨k, rfl⟩ : ∃ k : Nat, each = k := ⟨each.toNat, by omega⟩
    have e1 : gl ids.reverse k = gl ids k := by
      rw [gl_good h, gl_good h']
      exact srt_of_perm (raw_reverse ids k)
    rw [e1, h'] at h2
    rw [h] at h1
    have e2 : gl ids k = srt (raw ids k) := gl_good h
    rw [e2] at h1 h2
    have hlen : (srt (raw ids k)).length = k * n := by rw [(srt_perm _).length_eq, raw_len, hn, Nat.mul_comm]
    exact good A ids n ca k (k * n) W (srt (raw ids k)) hn hbig hx h1 h2 hlen rfl (by have := Nat.mul_le_mul (show k ≤ 20 by omega) k1; omega) (by omega) k1 (made_right h) (fun x hx => by rw [(srt_perm (raw ids k)).countP_eq]; exact raw_count g3 hx k)
  · have h' : makeE ids.reverse each ≠ 0 := fun e => h ((makeE_reverse ids each).1 e)
    have v1 := makeE_vals ids each
    have v2 := makeE_vals ids.reverse each
    rw [gl_bad rfl h] at h1
    rw [gl_bad rfl h'] at h2
    exact bad A ids n ca each W _ _ hn hbig hx h1 h2 (by omega) (by omega)
set_option maxRecDepth 100000 in
theorem walk {H : Type} {enc : TypeId × Value → H} {base : Nat} {W : World} {v0 : Value} {d0 : DataW H} {p0 : List MemPlace}
    (o0 : Value.okWide Try.prog W .any base 22 v0) (h0 : DataW.Trod enc Try.prog W 0 (fun _ => true) true 22 v0 d0 p0) (a1 : Int) (w1 : (Lit.int .i64 a1).wf = true) {d1 : DataW H}
    (hz : (DataW.weightsEach Try.prog [22, 3] [d0, d1]).all (· ≤ reachBytes) = true) :
    Calls Try.prog 7 #[v0, .int .i64 a1] W (Law.Yes W) := by
  obtain ⟨A, ca, ids, rfl, hl, hx, hc, _, _⟩ := open_i64sZ Try.underlying22 Try.underlying3 (by kernel_rfl) (by kernel_rfl) o0 h0 hz (j := 0) rfl rfl
  exact words A ids _ ca a1 W rfl hc hl hx
theorem own : ownKnob Try.prog.godebug = none := by kernel_rfl
theorem laid : laidOutB Try.prog = true := by kernel_rfl
theorem pars : ∀ t ∈ Try.f7.params.toList, Try.prog.readableRec t = true ∧ t < Try.prog.types.size := by
  have h : Try.f7.params.toList.all (fun t => Try.prog.readableRec t && decide (t < Try.prog.types.size)) = true := by kernel_rfl
  intro t ht; have := List.all_eq_true.1 h t ht; simpa using this
set_option maxRecDepth 100000 in
theorem calls (H : Type) (enc : TypeId × Value → H) (W : World) (base : Nat) (args : Array Value) (ds : List (DataW H)) (before : List MemPlace)
    (hval : ∀ (j : Nat) t v, Try.f7.params[j]? = some t → args[j]? = some v → Value.okWide Try.prog W .any base t v)
    (hA : DataW.TrodAll enc Try.prog W 0 (fun _ => true) true Try.f7.params.toList args.toList ds before) (hz : (DataW.weightsEach Try.prog Try.f7.params.toList ds).all (· ≤ reachBytes) = true) :
    Calls Try.prog 7 args W (Law.Yes W) := by
  rw [Try.params7] at hA hval hz
  obtain ⟨v0, vs0, d0, ds0, p0, q0, hargs, rfl, rfl, h0, r0⟩ := trodAll_cons hA
  obtain ⟨v1, vs1, d1, ds1, p1, q1, rfl, rfl, rfl, h1, r1⟩ := trodAll_cons r0
  obtain ⟨rfl, rfl, rfl⟩ := trodAll_nil r1
  obtain rfl : args = #[v0, v1] := by cases args; simp_all
  obtain ⟨a1, rfl, rfl, rfl, w1⟩ := open_int Try.underlying3 (hval 1 3 v1 rfl rfl) h1
  exact walk (W := W) (hval 0 22 v0 rfl rfl) h0 a1 w1 hz
theorem fnOf (H : Type) : ∀ ds : List (DataW H), ds.length = Try.f7.params.toList.length → Rows.ringOrderSpec.fn H ds = { results := [.lit (.bool true)], args := ds } := by
  intro ds h
  have h : ds.length = 2 := h
  obtain _ | ⟨x0, ds⟩ := ds
  · simp at h
  obtain _ | ⟨x1, ds⟩ := ds
  · simp at h
  obtain rfl : ds = [] := List.eq_nil_of_length_eq_zero (by simpa using h)
  rfl
set_option maxRecDepth 100000 in
theorem lifted (os : Os) (started : os.Started) (H : Type) (enc : TypeId × Value → H) :
    ReturnsInHanded {} Try.checked os 7 .any (Rows.ringOrderSpec.pre6 enc Try.prog Try.f7 Rows.ringOrderRow.domain false) (Rows.ringOrderSpec.post enc Try.prog Try.f7 false true false false) := by
  refine returnsInHanded_of_change_sized (C := Try.checked) own started (by kernel_rfl) Try.func7
    (ChangeSpec.witness6 (enc := enc) (C := Try.checked) false ⟨#[], #[.slice none 0 0, .int .i64 0], []⟩ 8 (by kernel_rfl) (by kernel_rfl) (by kernel_rfl) (by kernel_rfl)) ?_
  intro W base args ds gs before hval hW _ hz _
  obtain ⟨p, q, hA, hV, rfl, hfz, hnd⟩ := id hW
  obtain ⟨rfl, rfl⟩ := trodVars_none hV
  simp only [List.append_nil] at hz
  have hz2 : (DataW.weightsEach Try.prog Try.f7.params.toList ds).all (· ≤ reachBytes) = true := hz
  exact Law.ending (C := Try.checked) (s := Rows.ringOrderSpec) laid pars rfl Try.underlying4 rfl (fnOf H) hW (calls H enc W base args ds p hval hA hz2)
theorem over : Rows.ringOrderRow.holds Try.pinned (OpenSpec.ofChange Rows.ringOrderSpec) :=
  OpenClaim.holds_of_wide 7 Try.f7 rfl rfl rfl rfl rfl rfl rfl ⟨rfl, rfl, rfl, rfl, rfl⟩ rfl rfl rfl rfl rfl (by kernel_rfl) Try.func7 (by kernel_rfl)
    (of_decide_eq_true (by kernel_rfl)) (by unfold Func.isWrapper; first | (rw [if_pos (by decide +kernel)]; kernel_rfl) | (rw [if_neg (by decide +kernel)]; exact ⟨rfl, rfl⟩))
    (fun os started H enc _ => lifted os started H enc)
theorem proved : Rows.RingOrderSaid := over
end Go.Proofs.Ytpnfcjodjgbdbaa.ringOrder
