/-
  StripeSizes: for every layout and every integer long, the law StripeSizes answers true (the sizes of the objects add up to the file, and side by side none is longer than another one by more than a unit), and its arguments read afterwards as before. No condition.
-/
import Derived.Test.YtlcbchpijijilaaStAlive
import Derived.Test.YtlcbchpijijilaaStLay
namespace Go.Proofs.Ytlcbchpijijilaa.stripeSizes
open Go.ChangeShapes Go.WideShapes Go.ChangeAt Go.RowKit
open Mem Stripe
set_option linter.unusedVariables false

set_option maxRecDepth 100000 in
set_option maxHeartbeats 1000000 in
theorem early (u w d a k : Int) (V : World) (hk : k ≠ 0) (h : ∀ V, Calls Try.prog 16 #[.agg #[.int .i64 u, .int .i64 w, .int .i64 d], .int .i64 a] V (Gave (.tuple #[.slice none 0 0, .int .i64 k]) V)) :
    Calls Try.prog 8 #[.agg #[.int .i64 u, .int .i64 w, .int .i64 d], .int .i64 a] V (Law.Yes V) := by
  have H := Lib.hid h
  have n1 : (k == 0) = false := by simpa using hk
  have n2 : (k != 0) = true := by simpa using hk
  clear h hk
  go_enter Try.func8, Try.ntmps8
  go_wp2_with fail
  refine (alive_c _).mono ?_
  rintro e w1 ⟨rfl, hb⟩
  obtain ⟨c0, c1, c2⟩ := box_cells hb
  have HB := Lib.hid hb
  clear hb
  go_wp2_with fail
  refine (H.out _).mono ?_
  rintro e w2 ⟨rfl, hb⟩
  have HB2 := Lib.hid (HB.out.trans (hb.mono HB.out.size))
  clear hb c0 c1 c2
  go_wp2
  go_ret
  exact ⟨rfl, below_box HB2.out⟩
set_option maxRecDepth 100000 in
set_option maxHeartbeats 4000000 in
theorem main (U W D m : Nat) (V : World) (h : Ok U W D) (h1 : m ≤ 1099511627776) (h2 : m / U ≤ 400) :
    Calls Try.prog 8 #[.agg #[.int .i64 U, .int .i64 W, .int .i64 D], .int .i64 m] V (Law.Yes V) := by
  have H := Lib.hid (fun V => sizes_ok U W D m V h h1 h2)
  obtain ⟨hU, hW, hD⟩ := h
  have EV := Lib.hid (show ∀ (k s : Nat), (sizs U W D m)[k]? = some s → ∃ S, (sizs U W D m)[k / W * W]? = some S ∧ s ≤ S ∧ S ≤ s + U ∧ s ≤ U * D ∧ 1 ≤ s from fun k s hk => filled_even hU.1 hW.1 hD.1 (filled hU.1 hW.1 hD.1 m) hk)
  have SM := Lib.hid (show (sizs U W D m).sum = m from siz_sum hU.1 hW.1 hD.1 m)
  have SL := (show (sizs U W D m).length ≤ m from siz_len _ _ m)
  have k1 : U * D ≤ 1048576 * 1024 := mul_le (by omega) (by omega)
  have p1 := @muls U D
  generalize hx : U * D = x at *
  generalize hz : sizs U W D m = z at *
  generalize hn : z.length = n at *
  have HN := Lib.hid hn
  clear hx hz hn h2
  go_enter Try.func8, Try.ntmps8
  go_wp2_with fail
  refine (alive_c _).mono ?_
  rintro e w1 ⟨rfl, hb⟩
  obtain ⟨c0, c1, c2⟩ := box_cells hb
  have HB := Lib.hid hb
  clear hb
  go_wp2_with fail
  refine (H.out _).mono ?_
  rintro e w2 ⟨A, ca, rfl, _, hT, hb⟩
  have HB2 := Lib.hid (HB.out.trans (hb.mono HB.out.size))
  have HR := Lib.hid hT.reads
  rw [HN.out]
  clear hb hT c0 c1 c2 HB H
  go_wp2
  go_loopw [7, 26] (fun s i wr => ∃ k : Nat, k ≤ n ∧ i = .int .i64 k ∧ s = .int .i64 ((z.take k).sum : Nat) ∧ Drawn w2 wr) (fun _ i _ => n - (intOf i).toNat)
  case atStart => exact ⟨0, by omega, rfl, rfl, Drawn.refl _⟩
  case round =>
    obtain ⟨k, hk, rfl, rfl, hD2⟩ := hrel
    have KB := Lib.hid (HB2.out.trans ((hD2.below w2.heap.size).mono HB2.out.size))
    have KR := Lib.hid (HR.out.below (hD2.below _))
    have KD := Lib.hid hD2
    have ts : (z.take k).sum ≤ m := by
      have h := SM.out
      rw [← List.take_append_drop k z, List.sum_append] at h
      omega
    clear hD2
    by_cases hlt : k < n
    · have kz : k < z.length := by rw [HN.out]; exact hlt
      have e1 : z[k]? = some z[k] := List.getElem?_eq_getElem kz
      obtain ⟨S, e2, g1, g2, g3, g4⟩ := EV.out k _ e1
      have tn : (z.take (k + 1)).sum = (z.take k).sum + z[k] := by
        rw [List.take_succ_eq_append_getElem kz, List.sum_append]; simp
      have TN := Lib.hid tn
      have ts2 : (z.take k).sum + z[k] ≤ m := by
        have h := SM.out
        rw [← List.take_append_drop (k + 1) z, List.sum_append, tn] at h
        omega
      obtain ⟨b, o, rfl, _, x1⟩ := KR.out k (nat64 z[k]) (by rw [List.getElem?_map, e1]; rfl)
      obtain ⟨b', o', e, _, x2⟩ := KR.out (k / W * W) (nat64 S) (by rw [List.getElem?_map, e2]; rfl)
      injection e with e
      injection e with e3 e4
      subst e3 e4
      have y1 : wr.cell? ⟨b, o + k, none⟩ = some (.int .i64 (z[k] : Int)) := x1
      have y2 : wr.cell? ⟨b, o + k / W * W, none⟩ = some (.int .i64 (S : Int)) := x2
      obtain ⟨c0, c1, c2⟩ := box_cells KB.out
      have sl : k / W * W < n := by
        have := Nat.div_mul_le_self k W; omega
      have q1 := @divs k W
      have t1 := @tdivs k W
      have b1 : k / W ≤ k := Nat.div_le_self _ _
      have p2 := @muls (k / W) W
      generalize hs : z[k] = s at *
      generalize hv : k / W = v at *
      generalize hy : v * W = y at *
      generalize hT : (z.take k).sum = t at *
      clear e1 e2 x1 x2 tn hs hv hy hT kz
      have i1 : (k : Int) < (n : Int) := by omega
      have i2 : (y : Int) < (n : Int) := by omega
      have n1 : ((W : Int) == 0) = false := by simp; omega
      have nz : ¬ W = 0 := by omega
      have wq : IntKind.i64.wrap (v : Int) = v := IntWalk.i64_in _ (by omega)
      have d1 : decide (S < s) = false := by simpa using g1
      have d2 : decide ((U : Int) < (S : Int) - (s : Int)) = false := by rw [decide_eq_false_iff_not]; omega
      have d3 : decide (x < s) = false := by rw [decide_eq_false_iff_not]; omega
      have d4 : decide ((s : Int) < 1) = false := by rw [decide_eq_false_iff_not]; omega
      have w1 : IntKind.i64.wrap ((S : Int) - (s : Int)) = (S : Int) - (s : Int) := IntWalk.i64_in _ (by omega)
      have w2 : IntKind.i64.wrap (x : Int) = (x : Int) := IntWalk.i64_in _ (by omega)
      have w3 : IntKind.i64.wrap (y : Int) = (y : Int) := IntWalk.i64_in _ (by omega)
      go_wp2
      go_quiet (fail)
      go_wp2
      go_quiet (fail)
      go_wp2
      go_roundw
      case rel => exact ⟨k + 1, by omega, by go_num, by rw [TN.out]; go_num, KD.out.more _⟩
      case measure => simp [intOf]; omega
    · obtain rfl : k = n := by omega
      have e : (z.take k).sum = m := by rw [List.take_of_length_le (by rw [HN.out]; exact Nat.le_refl _)]; exact SM.out
      rw [e]
      clear e ts
      go_wp2
      go_ret
      exact ⟨rfl, below_box KB.out⟩
theorem words (u w d a : Int) (V : World) (wa : (Lit.int .i64 a).wf = true) :
    Calls Try.prog 8 #[.agg #[.int .i64 u, .int .i64 w, .int .i64 d], .int .i64 a] V (Law.Yes V) := by
  by_cases h : OkZ u w d
  · obtain ⟨U, W, D, rfl, rfl, rfl, hok⟩ := h.n
    by_cases hr : RangeOk U 0 a
    · obtain ⟨h1, h2, h3, h4⟩ := hr
      obtain ⟨m, rfl⟩ : ∃ m : Nat, a = m := ⟨a.toNat, by omega⟩
      rw [divs] at h4
      exact main U W D m V hok (by omega) (by omega)
    · exact early _ _ _ _ 2 V (by omega) (fun V => sizes_err _ _ _ _ 2 V (by omega) (fun V => split_err _ _ _ _ _ 2 V (by omega) (fun V => wr_bad U W D 0 a V hok (wf_le wa) hr)))
  · exact early _ _ _ _ 1 V (by omega) (fun V => sizes_err _ _ _ _ 1 V (by omega) (fun V => split_err _ _ _ _ _ 1 V (by omega) (fun V => wr_form u w d 0 a V h)))
theorem walk {H : Type} {enc : TypeId × Value → H} {base : Nat} {W : World} {v0 : Value} {d0 : DataW H} {p0 : List MemPlace}
    (o0 : Value.okWide Try.prog W .any base 23 v0) (h0 : DataW.Trod enc Try.prog W 0 (fun _ => true) true 23 v0 d0 p0) (a1 : Int) (w1 : (Lit.int .i64 a1).wf = true) :
    Calls Try.prog 8 #[v0, .int .i64 a1] W (Law.Yes W) := by
  obtain ⟨u, w, z, rfl, _, _, _⟩ := open_layout o0 h0
  exact words u w z a1 W w1
theorem own : ownKnob Try.prog.godebug = none := by kernel_rfl
theorem laid : laidOutB Try.prog = true := by kernel_rfl
theorem pars : ∀ t ∈ Try.f8.params.toList, Try.prog.readableRec t = true ∧ t < Try.prog.types.size := by
  have h : Try.f8.params.toList.all (fun t => Try.prog.readableRec t && decide (t < Try.prog.types.size)) = true := by kernel_rfl
  intro t ht; have := List.all_eq_true.1 h t ht; simpa using this
theorem calls (H : Type) (enc : TypeId × Value → H) (W : World) (base : Nat) (args : Array Value) (ds : List (DataW H)) (before : List MemPlace)
    (hval : ∀ (j : Nat) t v, Try.f8.params[j]? = some t → args[j]? = some v → Value.okWide Try.prog W .any base t v)
    (hA : DataW.TrodAll enc Try.prog W 0 (fun _ => true) true Try.f8.params.toList args.toList ds before) :
    Calls Try.prog 8 args W (Law.Yes W) := by
  rw [Try.params8] at hA hval
  obtain ⟨v0, vs0, d0, ds0, p0, q0, hargs, rfl, rfl, h0, r0⟩ := trodAll_cons hA
  obtain ⟨v1, vs1, d1, ds1, p1, q1, rfl, rfl, rfl, h1, r1⟩ := trodAll_cons r0
  obtain ⟨rfl, rfl, rfl⟩ := trodAll_nil r1
  obtain rfl : args = #[v0, v1] := by cases args; simp_all
  obtain ⟨a1, rfl, rfl, rfl, w1⟩ := open_int Try.underlying3 (hval 1 3 v1 rfl rfl) h1
  exact walk (W := W) (hval 0 23 v0 rfl rfl) h0 a1 w1
theorem fnOf (H : Type) : ∀ ds : List (DataW H), ds.length = Try.f8.params.toList.length → Rows.stripeSizesSpec.fn H ds = { results := [.lit (.bool true)], args := ds } := by
  intro ds h
  have h : ds.length = 2 := h
  obtain _ | ⟨x0, ds⟩ := ds
  · simp at h
  obtain _ | ⟨x1, ds⟩ := ds
  · simp at h
  obtain rfl : ds = [] := List.eq_nil_of_length_eq_zero (by simpa using h)
  rfl
set_option maxRecDepth 100000 in
theorem lifted (os : Os) (started : os.Started) (H : Type) (enc : TypeId × Value → H) :
    ReturnsInHanded {} Try.checked os 8 .any (Rows.stripeSizesSpec.pre6 enc Try.prog Try.f8 Rows.stripeSizesRow.domain false) (Rows.stripeSizesSpec.post enc Try.prog Try.f8 false true false false) := by
  refine returnsInHanded_of_change (C := Try.checked) own started (by kernel_rfl) Try.func8
    (ChangeSpec.witness6 (enc := enc) (C := Try.checked) false ⟨#[], #[.agg #[.int .i64 0, .int .i64 0, .int .i64 0], .int .i64 0], []⟩ 8 (by kernel_rfl) (by kernel_rfl) (by kernel_rfl) (by kernel_rfl)) ?_
  intro W base args ds gs before hval hW _ _
  obtain ⟨p, q, hA, hV, rfl, hfz, hnd⟩ := id hW
  obtain ⟨rfl, rfl⟩ := trodVars_none hV
  exact Law.ending (C := Try.checked) (s := Rows.stripeSizesSpec) laid pars rfl Try.underlying4 rfl (fnOf H) hW (calls H enc W base args ds p hval hA)
theorem over : Rows.stripeSizesRow.holds Try.pinned (OpenSpec.ofChange Rows.stripeSizesSpec) :=
  OpenClaim.holds_of_wide 8 Try.f8 rfl rfl rfl rfl rfl rfl rfl ⟨rfl, rfl, rfl, rfl, rfl⟩ rfl rfl rfl rfl rfl (by kernel_rfl) Try.func8 (by kernel_rfl)
    (of_decide_eq_true (by kernel_rfl)) (by unfold Func.isWrapper; first | (rw [if_pos (by decide +kernel)]; kernel_rfl) | (rw [if_neg (by decide +kernel)]; exact ⟨rfl, rfl⟩))
    (fun os started H enc _ => lifted os started H enc)
theorem proved : Rows.StripeSizesSaid := over
end Go.Proofs.Ytlcbchpijijilaa.stripeSizes
