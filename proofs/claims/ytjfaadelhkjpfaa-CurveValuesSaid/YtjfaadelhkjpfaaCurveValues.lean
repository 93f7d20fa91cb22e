/-
  CurveValues: for all byte slices p and q and every byte x, the law CurveValues answers true (values of sums and products are sums and products of values), and its arguments read afterwards as before. No condition.
-/
import Derived.Test.YtjfaadelhkjpfaaCurve
import Derived.Test.YtjfaadelhkjpfaaLaw
import Derived.Test.YtjfaadelhkjpfaaCurveAlive
import Derived.Test.YtjfaadelhkjpfaaGf
namespace Go.Proofs.Ytjfaadelhkjpfaa.curveValues
open Go.ChangeShapes Go.WideShapes Go.ChangeAt Go.RowKit
open Gf Mem Poly
set_option linter.unusedVariables false
attribute [local go_sem] xor8_nat

theorem eq8' {x y : UInt8} (h : x = y) : ((x.toNat : Int) == (y.toNat : Int)) = true := by rw [h]; exact beq_self_eq_true _
set_option maxRecDepth 100000 in
set_option maxHeartbeats 4000000 in
theorem words (hAt : AtSpec) (hSum : SumSpec) (hTimes : TimesSpec) (hThru : ThruSpec) (A B : Option Addr) (p q : List UInt8) (ca cb : Nat) (x : UInt8) (W : World) (hp : Reads W A (p.map byt)) (hq : Reads W B (q.map byt))
    (lp : p.length ≤ 140737488351232) (lq : q.length ≤ 140737488351232) (kp : p.length ≤ ca) (kq : q.length ≤ cb) :
    Calls Try.prog 5 #[.slice A p.length ca, .slice B q.length cb, .int .u8 x.toNat] W (Law.Yes W) := by
  have hal := alive_c hAt hSum hTimes hThru W
  have h1 := fun V (h : Below W.heap.size W V) => hAt A p ca x V (by omega) (hp.below h)
  have h2 := fun V (h : Below W.heap.size W V) => hAt B q cb x V (by omega) (hq.below h)
  have h3 := fun V (h : Below W.heap.size W V) => hSum A B p q ca cb V (by omega) (by omega) (hp.below h) (hq.below h)
  have h4 := fun V (h : Below W.heap.size W V) => hTimes A B p q ca cb V (by omega) (by omega) kp kq (hp.below h) (hq.below h)
  have h5 := fun A' c V (h : Reads V A' ((trim (padd p q)).map byt)) => hAt A' (trim (padd p q)) c x V (by have := trim_len (padd p q); rw [len_padd] at this; omega) h
  have h6 := fun A' c V (h : Reads V A' ((trim (pmul p q)).map byt)) => hAt A' (trim (pmul p q)) c x V (by have := trim_len (pmul p q); have := len_pmul p q; omega) h
  have f1 : (((ev (trim (padd p q)) x).toNat : Int) == ((xor8 (ev p x) (ev q x)).toNat : Int)) = true := eq8' (by rw [ev_trim, ev_padd]; rfl)
  have f2 : (((ev (trim (pmul p q)) x).toNat : Int) == ((mul (ev p x) (ev q x)).toNat : Int)) = true := eq8' (by rw [ev_trim, ev_pmul])
  have HAL := Lib.hid hal
  have H1 := Lib.hid h1
  have H2 := Lib.hid h2
  have H3 := Lib.hid h3
  have H4 := Lib.hid h4
  have H5 := Lib.hid h5
  have H6 := Lib.hid h6
  clear hal h1 h2 h3 h4 h5 h6 hAt hSum hTimes hThru hp hq
  go_enter Try.func5, Try.ntmps5
  go_wp2_with fail
  refine HAL.out.mono ?_
  rintro e w1 ⟨rfl, hb1⟩
  have B1 := Lib.hid hb1
  clear hb1
  go_wp2_with fail
  refine (H1.out w1 B1.out).mono ?_
  rintro e w2 ⟨rfl, hd2⟩
  have B2 := Lib.hid (B1.out.trans (hd2.below _))
  clear hd2
  go_wp2_with fail
  refine (H2.out w2 B2.out).mono ?_
  rintro e w3 ⟨rfl, hd3⟩
  have B3 := Lib.hid (B2.out.trans (hd3.below _))
  clear hd3
  go_wp2_with fail
  refine (H3.out w3 B3.out).mono ?_
  rintro e w4 ⟨A4, c4, rfl, hR4, hb4⟩
  have B4 := Lib.hid (B3.out.trans (hb4.mono B3.out.size))
  have R4 := Lib.hid hR4
  clear hR4 hb4
  go_wp2_with fail
  refine (H5.out A4 _ w4 R4.out).mono ?_
  rintro e w5 ⟨rfl, hd5⟩
  have B5 := Lib.hid (B4.out.trans (hd5.below _))
  clear hd5
  go_wp2_with fail
  refine (H4.out w5 B5.out).mono ?_
  rintro e w6 ⟨A6, c6, rfl, hR6, hb6⟩
  have B6 := Lib.hid (B5.out.trans (hb6.mono B5.out.size))
  have R6 := Lib.hid hR6
  clear hR6 hb6
  go_wp2_with fail
  refine (H6.out A6 _ w6 R6.out).mono ?_
  rintro e w7 ⟨rfl, hd7⟩
  have B7 := Lib.hid (B6.out.trans (hd7.below _))
  clear hd7
  go_wp2_with fail
  refine (mul_c (ev p x) (ev q x) _).mono ?_
  rintro e w' ⟨rfl, rfl⟩
  go_wp2_with fail
  go_ret
  exact ⟨rfl, B7.out⟩
theorem walk {H : Type} {enc : TypeId × Value → H} {base : Nat} {W : World} {v0 v1 : Value} {d0 d1 : DataW H} {p0 p1 : List MemPlace}
    (o0 : Value.okWide Try.prog W .any base 22 v0) (h0 : DataW.Trod enc Try.prog W 0 (fun _ => true) true 22 v0 d0 p0) (o1 : Value.okWide Try.prog W .any base 22 v1) (h1 : DataW.Trod enc Try.prog W 0 (fun _ => true) true 22 v1 d1 p1)
    (a2 : Int) (w2 : (Lit.int .u8 a2).wf = true) (hz : (DataW.weightsEach Try.prog [22, 22, 5] [d0, d1, .lit (.int .u8 a2)]).all (· ≤ reachBytes) = true) :
    Calls Try.prog 5 #[v0, v1, .int .u8 a2] W (Law.Yes W) := by
  obtain ⟨x2, rfl⟩ := Words.of_wf8 w2
  obtain ⟨A0, c0, l0, rfl, z0, r0, k0, _⟩ := open_bytesZ Try.underlying22 Try.underlying5 (by kernel_rfl) (by kernel_rfl) o0 h0 hz (j := 0) rfl rfl
  obtain ⟨A1, c1, l1, rfl, z1, r1, k1, _⟩ := open_bytesZ Try.underlying22 Try.underlying5 (by kernel_rfl) (by kernel_rfl) o1 h1 hz (j := 1) rfl rfl
  exact words at_c sum_c times_c thru_c A0 A1 l0 l1 c0 c1 x2 W r0 r1 z0 z1 k0 k1
theorem own : ownKnob Try.prog.godebug = none := by kernel_rfl
theorem laid : laidOutB Try.prog = true := by kernel_rfl
theorem pars : ∀ t ∈ Try.f5.params.toList, Try.prog.readableRec t = true ∧ t < Try.prog.types.size := by
  have h : Try.f5.params.toList.all (fun t => Try.prog.readableRec t && decide (t < Try.prog.types.size)) = true := by kernel_rfl
  intro t ht; have := List.all_eq_true.1 h t ht; simpa using this
theorem calls (H : Type) (enc : TypeId × Value → H) (W : World) (base : Nat) (args : Array Value) (ds : List (DataW H)) (before : List MemPlace)
    (hval : ∀ (j : Nat) t v, Try.f5.params[j]? = some t → args[j]? = some v → Value.okWide Try.prog W .any base t v)
    (hA : DataW.TrodAll enc Try.prog W 0 (fun _ => true) true Try.f5.params.toList args.toList ds before) (hz : (DataW.weightsEach Try.prog Try.f5.params.toList ds).all (· ≤ reachBytes) = true) :
    Calls Try.prog 5 args W (Law.Yes W) := by
  rw [Try.params5] at hA hval hz
  obtain ⟨v0, vs0, d0, ds0, p0, q0, hargs, rfl, rfl, h0, r0⟩ := trodAll_cons hA
  obtain ⟨v1, vs1, d1, ds1, p1, q1, rfl, rfl, rfl, h1, r1⟩ := trodAll_cons r0
  obtain ⟨v2, vs2, d2, ds2, p2, q2, rfl, rfl, rfl, h2, r2⟩ := trodAll_cons r1
  obtain ⟨rfl, rfl, rfl⟩ := trodAll_nil r2
  obtain rfl : args = #[v0, v1, v2] := by cases args; simp_all
  obtain ⟨a2, rfl, rfl, rfl, w2⟩ := open_int Try.underlying5 (hval 2 5 v2 rfl rfl) h2
  exact walk (W := W) (hval 0 22 v0 rfl rfl) h0 (hval 1 22 v1 rfl rfl) h1 a2 w2 hz
theorem fnOf (H : Type) : ∀ ds : List (DataW H), ds.length = Try.f5.params.toList.length → Rows.curveValuesSpec.fn H ds = { results := [.lit (.bool true)], args := ds } := by
  intro ds h
  have h : ds.length = 3 := h
  obtain _ | ⟨x0, ds⟩ := ds
  · simp at h
  obtain _ | ⟨x1, ds⟩ := ds
  · simp at h
  obtain _ | ⟨x2, ds⟩ := ds
  · simp at h
  obtain rfl : ds = [] := List.eq_nil_of_length_eq_zero (by simpa using h)
  rfl
set_option maxRecDepth 100000 in
theorem lifted (os : Os) (started : os.Started) (H : Type) (enc : TypeId × Value → H) :
    ReturnsInHanded {} Try.checked os 5 .any (Rows.curveValuesSpec.pre6 enc Try.prog Try.f5 Rows.curveValuesRow.domain false) (Rows.curveValuesSpec.post enc Try.prog Try.f5 false true false false) := by
  refine returnsInHanded_of_change_sized (C := Try.checked) own started (by kernel_rfl) Try.func5
    (ChangeSpec.witness6 (enc := enc) (C := Try.checked) false ⟨#[], #[.slice none 0 0, .slice none 0 0, .int .u8 0], []⟩ 8 (by kernel_rfl) (by kernel_rfl) (by kernel_rfl) (by kernel_rfl)) ?_
  intro W base args ds gs before hval hW _ hz _
  obtain ⟨p, q, hA, hV, rfl, hfz, hnd⟩ := id hW
  obtain ⟨rfl, rfl⟩ := trodVars_none hV
  simp only [List.append_nil] at hz
  have hz2 : (DataW.weightsEach Try.prog Try.f5.params.toList ds).all (· ≤ reachBytes) = true := hz
  exact Law.ending (C := Try.checked) (s := Rows.curveValuesSpec) laid pars rfl Try.underlying4 rfl (fnOf H) hW (calls H enc W base args ds p hval hA hz2)
theorem over : Rows.curveValuesRow.holds Try.pinned (OpenSpec.ofChange Rows.curveValuesSpec) :=
  OpenClaim.holds_of_wide 5 Try.f5 rfl rfl rfl rfl rfl rfl rfl ⟨rfl, rfl, rfl, rfl, rfl⟩ rfl rfl rfl rfl rfl (by kernel_rfl) Try.func5 (by kernel_rfl)
    (of_decide_eq_true (by kernel_rfl)) (by unfold Func.isWrapper; first | (rw [if_pos (by decide +kernel)]; kernel_rfl) | (rw [if_neg (by decide +kernel)]; exact ⟨rfl, rfl⟩))
    (fun os started H enc _ => lifted os started H enc)
theorem proved : Rows.CurveValuesSaid := over
end Go.Proofs.Ytjfaadelhkjpfaa.curveValues
