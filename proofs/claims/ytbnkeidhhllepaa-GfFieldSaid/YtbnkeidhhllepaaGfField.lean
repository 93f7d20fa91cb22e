/-
  GfField: for every three bytes a, b and c, the law GfField answers true (products commute, associate, go into sums, 1 is neutral, and only 0 makes 0), and its arguments read afterwards as before. No condition.
-/
import Derived.Test.YtbnkeidhhllepaaGfAlive
import Derived.Test.YtbnkeidhhllepaaLaw
namespace Go.Proofs.Ytbnkeidhhllepaa.gfField
open Go.ChangeShapes Go.WideShapes Go.ChangeAt Go.RowKit
open Gf
set_option linter.unusedVariables false
attribute [local go_sem] add8

set_option maxHeartbeats 1000000 in
theorem words (a b c : UInt8) (W : World) :
    Calls Try.prog 4 #[.int .u8 a.toNat, .int .u8 b.toNat, .int .u8 c.toNat] W (Law.Yes W) := by
  have f1 := eq8 (mul_comm a b)
  have f2 := eq8 (mul_assoc a b c)
  have f3 : (((mul a (add b c)).toNat : Int) == ((add (mul a b) (mul a c)).toNat : Int)) = true := eq8 (mul_add a b c)
  by_cases ha : a = 0
  · have f4 := is0 ha
    have f5 : (((mul a b).toNat : Int) == 0) = true := is0 (by rw [ha, zero_mul])
    clear ha
    go_enter Try.func4, Try.ntmps4
    go_wp2_with (first | (go_at_call 17; refine (alive_c _).mono ?_; rintro e w' ⟨rfl, rfl⟩) | (go_at_call 13; (with_reducible refine (mul_1 _ _).mono ?_); rintro e w' ⟨rfl, rfl⟩) | (go_at_call 13; refine (mul_c _ _ _).mono ?_; rintro e w' ⟨rfl, rfl⟩))
    go_ret
    exact ⟨rfl, Below.refl _ _⟩
  · by_cases hb : b = 0
    · have f4 := isnt0 ha
      have f6 := is0 hb
      have f5 : (((mul a b).toNat : Int) == 0) = true := is0 (by rw [hb, mul_zero])
      clear ha hb
      go_enter Try.func4, Try.ntmps4
      go_wp2_with (first | (go_at_call 17; refine (alive_c _).mono ?_; rintro e w' ⟨rfl, rfl⟩) | (go_at_call 13; (with_reducible refine (mul_1 _ _).mono ?_); rintro e w' ⟨rfl, rfl⟩) | (go_at_call 13; refine (mul_c _ _ _).mono ?_; rintro e w' ⟨rfl, rfl⟩))
      go_ret
      exact ⟨rfl, Below.refl _ _⟩
    · have f4 := isnt0 ha
      have f6 := isnt0 hb
      have f5 : (((mul a b).toNat : Int) == 0) = false := isnt0 (mul_ne_zero ha hb)
      clear ha hb
      go_enter Try.func4, Try.ntmps4
      go_wp2_with (first | (go_at_call 17; refine (alive_c _).mono ?_; rintro e w' ⟨rfl, rfl⟩) | (go_at_call 13; (with_reducible refine (mul_1 _ _).mono ?_); rintro e w' ⟨rfl, rfl⟩) | (go_at_call 13; refine (mul_c _ _ _).mono ?_; rintro e w' ⟨rfl, rfl⟩))
      go_ret
      exact ⟨rfl, Below.refl _ _⟩

theorem walk (a0 : Int) (w0 : (Lit.int .u8 a0).wf = true) (a1 : Int) (w1 : (Lit.int .u8 a1).wf = true) (a2 : Int) (w2 : (Lit.int .u8 a2).wf = true) (W : World) :
    Calls Try.prog 4 #[.int .u8 a0, .int .u8 a1, .int .u8 a2] W (Law.Yes W) := by
  obtain ⟨x, rfl⟩ := Words.of_wf8 w0
  obtain ⟨y, rfl⟩ := Words.of_wf8 w1
  obtain ⟨z, rfl⟩ := Words.of_wf8 w2
  exact words x y z W
theorem own : ownKnob Try.prog.godebug = none := by kernel_rfl
theorem laid : laidOutB Try.prog = true := by kernel_rfl
theorem pars : ∀ t ∈ Try.f4.params.toList, Try.prog.readableRec t = true ∧ t < Try.prog.types.size := by
  have h : Try.f4.params.toList.all (fun t => Try.prog.readableRec t && decide (t < Try.prog.types.size)) = true := by kernel_rfl
  intro t ht; have := List.all_eq_true.1 h t ht; simpa using this
theorem calls (H : Type) (enc : TypeId × Value → H) (W : World) (base : Nat) (args : Array Value) (ds : List (DataW H)) (before : List MemPlace)
    (hval : ∀ (j : Nat) t v, Try.f4.params[j]? = some t → args[j]? = some v → Value.okWide Try.prog W .any base t v)
    (hA : DataW.TrodAll enc Try.prog W 0 (fun _ => true) true Try.f4.params.toList args.toList ds before) :
    Calls Try.prog 4 args W (Law.Yes W) := by
  rw [Try.params4] at hA hval
  obtain ⟨v0, vs0, d0, ds0, p0, q0, hargs, rfl, rfl, h0, r0⟩ := trodAll_cons hA
  obtain ⟨v1, vs1, d1, ds1, p1, q1, rfl, rfl, rfl, h1, r1⟩ := trodAll_cons r0
  obtain ⟨v2, vs2, d2, ds2, p2, q2, rfl, rfl, rfl, h2, r2⟩ := trodAll_cons r1
  obtain ⟨rfl, rfl, rfl⟩ := trodAll_nil r2
  obtain rfl : args = #[v0, v1, v2] := by cases args; simp_all
  obtain ⟨a0, rfl, rfl, rfl, w0⟩ := open_int Try.underlying5 (hval 0 5 v0 rfl rfl) h0
  obtain ⟨a1, rfl, rfl, rfl, w1⟩ := open_int Try.underlying5 (hval 1 5 v1 rfl rfl) h1
  obtain ⟨a2, rfl, rfl, rfl, w2⟩ := open_int Try.underlying5 (hval 2 5 v2 rfl rfl) h2
  exact walk a0 w0 a1 w1 a2 w2 W
theorem fnOf (H : Type) : ∀ ds : List (DataW H), ds.length = Try.f4.params.toList.length → Rows.gfFieldSpec.fn H ds = { results := [.lit (.bool true)], args := ds } := by
  intro ds h
  have h : ds.length = 3 := h
  obtain _ | ⟨x0, ds⟩ := ds
  · simp at h
  obtain _ | ⟨x1, ds⟩ := ds
  · simp at h
  obtain _ | ⟨x2, ds⟩ := ds
  · simp at h
  obtain rfl : ds = [] := List.eq_nil_of_length_eq_zero (by simpa using h)
  rfl
set_option maxRecDepth 100000 in
theorem lifted (os : Os) (started : os.Started) (H : Type) (enc : TypeId × Value → H) :
    ReturnsInHanded {} Try.checked os 4 .any (Rows.gfFieldSpec.pre6 enc Try.prog Try.f4 Rows.gfFieldRow.domain false) (Rows.gfFieldSpec.post enc Try.prog Try.f4 false true false false) := by
  refine returnsInHanded_of_change (C := Try.checked) own started (by kernel_rfl) Try.func4
    (ChangeSpec.witness6 (enc := enc) (C := Try.checked) false ⟨#[], #[.int .u8 0, .int .u8 0, .int .u8 0], []⟩ 8 (by kernel_rfl) (by kernel_rfl) (by kernel_rfl) (by kernel_rfl)) ?_
  intro W base args ds gs before hval hW _ _
  obtain ⟨p, q, hA, hV, rfl, hfz, hnd⟩ := id hW
  obtain ⟨rfl, rfl⟩ := trodVars_none hV
  exact Law.ending (C := Try.checked) (s := Rows.gfFieldSpec) laid pars rfl Try.underlying4 rfl (fnOf H) hW (calls H enc W base args ds p hval hA)
theorem over : Rows.gfFieldRow.holds Try.pinned (OpenSpec.ofChange Rows.gfFieldSpec) :=
  OpenClaim.holds_of_wide 4 Try.f4 rfl rfl rfl rfl rfl rfl rfl ⟨rfl, rfl, rfl, rfl, rfl⟩ rfl rfl rfl rfl rfl (by kernel_rfl) Try.func4 (by kernel_rfl)
    (of_decide_eq_true (by kernel_rfl)) (by unfold Func.isWrapper; first | (rw [if_pos (by decide +kernel)]; kernel_rfl) | (rw [if_neg (by decide +kernel)]; exact ⟨rfl, rfl⟩))
    (fun os started H enc _ => lifted os started H enc)
theorem proved : Rows.GfFieldSaid := over
end Go.Proofs.Ytbnkeidhhllepaa.gfField
