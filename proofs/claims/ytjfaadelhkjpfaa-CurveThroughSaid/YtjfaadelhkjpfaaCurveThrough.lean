/-
  CurveThrough: for all byte slices xs and ys, the law CurveThrough answers true (Through returns what the document says), and its arguments read afterwards as before. No condition.
-/
import Derived.Test.YtjfaadelhkjpfaaCurve
import Derived.Test.YtjfaadelhkjpfaaLaw
import Derived.Test.YtjfaadelhkjpfaaCurveSpec
import Derived.Test.YtjfaadelhkjpfaaBytesFns
namespace Go.Proofs.Ytjfaadelhkjpfaa.curveThrough
open Go.ChangeShapes Go.WideShapes Go.ChangeAt Go.RowKit
open Gf Mem Poly
set_option linter.unusedVariables false

set_option maxRecDepth 100000 in
set_option maxHeartbeats 4000000 in
theorem words (hThru : ThruSpec) (A B : Option Addr) (xs ys : List UInt8) (ca cb : Nat) (W : World) (hx : Reads W A (xs.map byt)) (hy : Reads W B (ys.map byt))
    (lx : xs.length ≤ 140737488351232) (ly : ys.length ≤ 140737488351232) (lc : xs.length ≤ ca) :
    Calls Try.prog 4 #[.slice A xs.length ca, .slice B ys.length cb] W (Law.Yes W) := by
  have hT := hThru A B xs ys ca cb W (by omega) (by omega) hx hy
  have hC := fun (h1 : xs.length = ys.length) (h2 : xs.Nodup) (V : World) (hb : Below W.heap.size W V) => cThrough_c A B xs ys ca cb h1 h2 V (hx.below hb) (hy.below hb)
  have HT := Lib.hid hT
  have HC := Lib.hid hC
  have HX := Lib.hid hx
  clear hx hy hT hC hThru
  have hall : xs.take xs.length = xs := List.take_of_length_le (Nat.le_refl _)
  have HALL := Lib.hid hall
  clear hall
  generalize hN : xs.length = n at *
  generalize hM : ys.length = m at *
  have HN := Lib.hid hN
  have HM := Lib.hid hM
  clear hN hM
  go_enter Try.func4, Try.ntmps4
  go_wp2_with fail
  refine HT.out.mono ?_
  rintro e w1 ⟨A1, c1, r, err, rfl, hR, hB, hcase⟩
  rw [HN.out, HM.out] at hcase
  have HR := Lib.hid hR
  have HB := Lib.hid hB
  clear hR hB
  rcases hcase with ⟨h1, rfl, rfl⟩ | ⟨rfl, h2, rfl, rfl⟩ | ⟨rfl, h2, rfl, h3⟩
  · have b1 : ((n : Int) == (m : Int)) = false := by rw [beq_eq_false_iff_ne]; omega
    go_wp2
    go_ret
    exact ⟨rfl, HB.out⟩
  · have H2 := Lib.hid h2
    clear h2
    go_wp2
    go_loop [29] (fun i => ∃ k : Nat, k ≤ n ∧ i = .int .i64 k ∧ (xs.take k).Nodup) (fun i => n - (intOf i).toNat)
    case atStart => exact ⟨0, by omega, rfl, by simp⟩
    case round =>
      obtain ⟨k, hk, rfl, hN⟩ := hrel
      have HNN := Lib.hid hN
      clear hN
      by_cases hlt : k < n
      · obtain ⟨b, o, c, rfl, ec, cc⟩ := (HX.out.below HB.out).bytes (k := k) (by rw [HN.out]; exact hlt)
        have EC := Lib.hid ec
        clear ec
        have hkc : k ≤ ca := by omega
        by_cases hm : c ∈ xs.take k
        · have hi := index_nonneg hm
          clear hm
          go_wp2_with (go_at_call 17; refine (index_n b o (xs.take k) k ca c _ (by rw [List.length_take, HN.out]; omega) ((HX.out.below HB.out).takeB k)).mono ?_; rintro e w' ⟨rfl, rfl⟩)
          go_ret
          exact ⟨rfl, HB.out⟩
        · have hi := index_neg hm
          have HM2 := Lib.hid hm
          clear hm
          go_wp2_with (go_at_call 17; refine (index_n b o (xs.take k) k ca c _ (by rw [List.length_take, HN.out]; omega) ((HX.out.below HB.out).takeB k)).mono ?_; rintro e w' ⟨rfl, rfl⟩)
          go_round
          case rel => exact ⟨k + 1, by omega, by go_num, nodup_take_succ HNN.out EC.out HM2.out⟩
          case measure => simp [intOf]; omega
      · obtain rfl : k = n := by omega
        exact absurd (by have := HNN.out; rwa [HALL.out] at this) H2.out
  · have H2 := Lib.hid h2
    have H3 := Lib.hid h3
    clear h2 h3
    go_wp2
    go_loop [29] (fun i => ∃ k : Nat, k ≤ n ∧ i = .int .i64 k) (fun i => n - (intOf i).toNat)
    case atStart => exact ⟨0, by omega, rfl⟩
    case round =>
      obtain ⟨k, hk, rfl⟩ := hrel
      by_cases hlt : k < n
      · obtain ⟨b, o, c, rfl, ec, cc⟩ := (HX.out.below HB.out).bytes (k := k) (by rw [HN.out]; exact hlt)
        have hi := index_neg (nodup_not_mem H2.out ec)
        clear ec
        have hkc : k ≤ ca := by omega
        go_wp2_with (go_at_call 17; refine (index_n b o (xs.take k) k ca c _ (by rw [List.length_take, HN.out]; omega) ((HX.out.below HB.out).takeB k)).mono ?_; rintro e w' ⟨rfl, rfl⟩)
        go_round
        case rel => exact ⟨k + 1, by omega, by go_num⟩
        case measure => simp [intOf]; omega
      · obtain rfl : k = n := by omega
        go_wp2_with fail
        refine (HC.out (by first | trivial | rfl) H2.out _ HB.out).mono ?_
        rintro e w2 ⟨s, hs, A2, c2, rfl, _, hR2, hB2, _⟩
        have hrs : r = s := thru_unique H2.out (by rw [HN.out, HM.out]) H3.out hs
        have HRS := Lib.hid hrs
        have HR2 := Lib.hid hR2
        have HB2 := Lib.hid (HB.out.trans (hB2.mono HB.out.size))
        have HR1 := Lib.hid (HR.out.below hB2)
        clear hrs hR2 hB2 hs
        go_wp2_with fail
        refine (equal_same A1 A2 _ _ _ _ w2 HR1.out HR2.out HRS.out).mono ?_
        rintro e w' ⟨rfl, rfl⟩
        go_wp2_with fail
        go_ret
        exact ⟨rfl, HB2.out⟩
theorem walk {H : Type} {enc : TypeId × Value → H} {base : Nat} {W : World} {v0 v1 : Value} {d0 d1 : DataW H} {p0 p1 : List MemPlace}
    (o0 : Value.okWide Try.prog W .any base 22 v0) (h0 : DataW.Trod enc Try.prog W 0 (fun _ => true) true 22 v0 d0 p0) (o1 : Value.okWide Try.prog W .any base 22 v1) (h1 : DataW.Trod enc Try.prog W 0 (fun _ => true) true 22 v1 d1 p1)
     (hz : (DataW.weightsEach Try.prog [22, 22] [d0, d1]).all (· ≤ reachBytes) = true) :
    Calls Try.prog 4 #[v0, v1] W (Law.Yes W) := by
  obtain ⟨A0, c0, l0, rfl, z0, r0, k0, _⟩ := open_bytesZ Try.underlying22 Try.underlying5 (by kernel_rfl) (by kernel_rfl) o0 h0 hz (j := 0) rfl rfl
  obtain ⟨A1, c1, l1, rfl, z1, r1, k1, _⟩ := open_bytesZ Try.underlying22 Try.underlying5 (by kernel_rfl) (by kernel_rfl) o1 h1 hz (j := 1) rfl rfl
  exact words thru_c A0 A1 l0 l1 c0 c1  W r0 r1 z0 z1 k0
theorem own : ownKnob Try.prog.godebug = none := by kernel_rfl
theorem laid : laidOutB Try.prog = true := by kernel_rfl
theorem pars : ∀ t ∈ Try.f4.params.toList, Try.prog.readableRec t = true ∧ t < Try.prog.types.size := by
  have h : Try.f4.params.toList.all (fun t => Try.prog.readableRec t && decide (t < Try.prog.types.size)) = true := by kernel_rfl
  intro t ht; have := List.all_eq_true.1 h t ht; simpa using this
theorem calls (H : Type) (enc : TypeId × Value → H) (W : World) (base : Nat) (args : Array Value) (ds : List (DataW H)) (before : List MemPlace)
    (hval : ∀ (j : Nat) t v, Try.f4.params[j]? = some t → args[j]? = some v → Value.okWide Try.prog W .any base t v)
    (hA : DataW.TrodAll enc Try.prog W 0 (fun _ => true) true Try.f4.params.toList args.toList ds before) (hz : (DataW.weightsEach Try.prog Try.f4.params.toList ds).all (· ≤ reachBytes) = true) :
    Calls Try.prog 4 args W (Law.Yes W) := by
  rw [Try.params4] at hA hval hz
  obtain ⟨v0, vs0, d0, ds0, p0, q0, hargs, rfl, rfl, h0, r0⟩ := trodAll_cons hA
  obtain ⟨v1, vs1, d1, ds1, p1, q1, rfl, rfl, rfl, h1, r1⟩ := trodAll_cons r0
  obtain ⟨rfl, rfl, rfl⟩ := trodAll_nil r1
  obtain rfl : args = #[v0, v1] := by cases args; simp_all
  exact walk (W := W) (hval 0 22 v0 rfl rfl) h0 (hval 1 22 v1 rfl rfl) h1 hz
theorem fnOf (H : Type) : ∀ ds : List (DataW H), ds.length = Try.f4.params.toList.length → Rows.curveThroughSpec.fn H ds = { results := [.lit (.bool true)], args := ds } := by
  intro ds h
  have h : ds.length = 2 := h
  obtain _ | ⟨x0, ds⟩ := ds
  · simp at h
  obtain _ | ⟨x1, ds⟩ := ds
  · simp at h
  obtain rfl : ds = [] := List.eq_nil_of_length_eq_zero (by simpa using h)
  rfl
set_option maxRecDepth 100000 in
theorem lifted (os : Os) (started : os.Started) (H : Type) (enc : TypeId × Value → H) :
    ReturnsInHanded {} Try.checked os 4 .any (Rows.curveThroughSpec.pre6 enc Try.prog Try.f4 Rows.curveThroughRow.domain false) (Rows.curveThroughSpec.post enc Try.prog Try.f4 false true false false) := by
  refine returnsInHanded_of_change_sized (C := Try.checked) own started (by kernel_rfl) Try.func4
    (ChangeSpec.witness6 (enc := enc) (C := Try.checked) false ⟨#[], #[.slice none 0 0, .slice none 0 0], []⟩ 8 (by kernel_rfl) (by kernel_rfl) (by kernel_rfl) (by kernel_rfl)) ?_
  intro W base args ds gs before hval hW _ hz _
  obtain ⟨p, q, hA, hV, rfl, hfz, hnd⟩ := id hW
  obtain ⟨rfl, rfl⟩ := trodVars_none hV
  simp only [List.append_nil] at hz
  have hz2 : (DataW.weightsEach Try.prog Try.f4.params.toList ds).all (· ≤ reachBytes) = true := hz
  exact Law.ending (C := Try.checked) (s := Rows.curveThroughSpec) laid pars rfl Try.underlying4 rfl (fnOf H) hW (calls H enc W base args ds p hval hA hz2)
theorem over : Rows.curveThroughRow.holds Try.pinned (OpenSpec.ofChange Rows.curveThroughSpec) :=
  OpenClaim.holds_of_wide 4 Try.f4 rfl rfl rfl rfl rfl rfl rfl ⟨rfl, rfl, rfl, rfl, rfl⟩ rfl rfl rfl rfl rfl (by kernel_rfl) Try.func4 (by kernel_rfl)
    (of_decide_eq_true (by kernel_rfl)) (by unfold Func.isWrapper; first | (rw [if_pos (by decide +kernel)]; kernel_rfl) | (rw [if_neg (by decide +kernel)]; exact ⟨rfl, rfl⟩))
    (fun os started H enc _ => lifted os started H enc)
theorem proved : Rows.CurveThroughSaid := over
end Go.Proofs.Ytjfaadelhkjpfaa.curveThrough
