/-
  MixTwo: for every three 64-bit words a, b and c, the law MixTwo answers true (with one argument fixed, Two tells the other ones apart, and it is One of One(a) + b), and its arguments read afterwards as before. No condition.
-/
import Derived.Test.YtimbibphpaibiaaMixAlive
import Derived.Test.YtimbibphpaibiaaLaw
namespace Go.Proofs.Ytimbibphpaibiaa.mixTwo
open Go.ChangeShapes Go.WideShapes Go.ChangeAt Go.RowKit
open Mix
set_option linter.unusedVariables false

theorem eqb (x y : UInt64) : ((x.toNat : Int) == (y.toNat : Int)) = (x == y) := by
  by_cases h : x = y
  · subst h; simp
  · rw [Words.ne_beq h]; symm; simpa using h

theorem left (a b c : UInt64) : (((two a b).toNat : Int) == ((two a c).toNat : Int)) = ((b.toNat : Int) == (c.toNat : Int)) := by
  rw [eqb, eqb, Bool.eq_iff_iff, beq_iff_eq, beq_iff_eq]
  exact ⟨two_left, fun h => by rw [h]⟩
theorem right (a b c : UInt64) : (((two a c).toNat : Int) == ((two b c).toNat : Int)) = ((a.toNat : Int) == (b.toNat : Int)) := by
  rw [eqb, eqb, Bool.eq_iff_iff, beq_iff_eq, beq_iff_eq]
  exact ⟨two_right, fun h => by rw [h]⟩
theorem made (a b : UInt64) : (((two a b).toNat : Int) == ((one (Words.add (one a) b)).toNat : Int)) = true := by
  rw [eqb, beq_iff_eq]; rfl
attribute [local go_sem] Words.add64 Words.add64m

set_option maxHeartbeats 400000 in
theorem words (a b c : UInt64) (W : World) :
    Calls Try.prog 5 #[.int .u64 a.toNat, .int .u64 b.toNat, .int .u64 c.toNat] W (Law.Yes W) := by
  have h1 := left a b c
  have h2 := right a b c
  have h3 := made a b
  go_enter Try.func5, Try.ntmps5
  go_wp2_with fail
  refine (alive_c _).mono ?_
  rintro e w' ⟨rfl, rfl⟩
  go_wp2_with (first | (go_at_call 13; refine (two_c _ _ _).mono ?_; rintro e w' ⟨rfl, rfl⟩) | (go_at_call 11; refine (one_c _ _).mono ?_; rintro e w' ⟨rfl, rfl⟩))
  go_ret
  exact ⟨rfl, Below.refl _ _⟩

theorem walk (a0 : Int) (w0 : (Lit.int .u64 a0).wf = true) (a1 : Int) (w1 : (Lit.int .u64 a1).wf = true) (a2 : Int) (w2 : (Lit.int .u64 a2).wf = true) (W : World) :
    Calls Try.prog 5 #[.int .u64 a0, .int .u64 a1, .int .u64 a2] W (Law.Yes W) := by
  obtain ⟨x, rfl⟩ := Words.of_wf64 w0
  obtain ⟨y, rfl⟩ := Words.of_wf64 w1
  obtain ⟨z, rfl⟩ := Words.of_wf64 w2
  exact words x y z W
theorem own : ownKnob Try.prog.godebug = none := by kernel_rfl
theorem laid : laidOutB Try.prog = true := by kernel_rfl
theorem pars : ∀ t ∈ Try.f5.params.toList, Try.prog.readableRec t = true ∧ t < Try.prog.types.size := by
  have h : Try.f5.params.toList.all (fun t => Try.prog.readableRec t && decide (t < Try.prog.types.size)) = true := by kernel_rfl
  intro t ht; have := List.all_eq_true.1 h t ht; simpa using this
theorem calls (H : Type) (enc : TypeId × Value → H) (W : World) (base : Nat) (args : Array Value) (ds : List (DataW H)) (before : List MemPlace)
    (hval : ∀ (j : Nat) t v, Try.f5.params[j]? = some t → args[j]? = some v → Value.okWide Try.prog W .any base t v)
    (hA : DataW.TrodAll enc Try.prog W 0 (fun _ => true) true Try.f5.params.toList args.toList ds before) :
    Calls Try.prog 5 args W (Law.Yes W) := by
  rw [Try.params5] at hA hval
  obtain ⟨v0, vs0, d0, ds0, p0, q0, hargs, rfl, rfl, h0, r0⟩ := trodAll_cons hA
  obtain ⟨v1, vs1, d1, ds1, p1, q1, rfl, rfl, rfl, h1, r1⟩ := trodAll_cons r0
  obtain ⟨v2, vs2, d2, ds2, p2, q2, rfl, rfl, rfl, h2, r2⟩ := trodAll_cons r1
  obtain ⟨rfl, rfl, rfl⟩ := trodAll_nil r2
  obtain rfl : args = #[v0, v1, v2] := by cases args; simp_all
  obtain ⟨a0, rfl, rfl, rfl, w0⟩ := open_int Try.underlying22 (hval 0 22 v0 rfl rfl) h0
  obtain ⟨a1, rfl, rfl, rfl, w1⟩ := open_int Try.underlying22 (hval 1 22 v1 rfl rfl) h1
  obtain ⟨a2, rfl, rfl, rfl, w2⟩ := open_int Try.underlying22 (hval 2 22 v2 rfl rfl) h2
  exact walk a0 w0 a1 w1 a2 w2 W
theorem fnOf (H : Type) : ∀ ds : List (DataW H), ds.length = Try.f5.params.toList.length → Rows.mixTwoSpec.fn H ds = { results := [.lit (.bool true)], args := ds } := by
  intro ds h
  have h : ds.length = 3 := h
  obtain _ | ⟨x0, ds⟩ := ds
  · simp at h
  obtain _ | ⟨x1, ds⟩ := ds
  · simp at h
  obtain _ | ⟨x2, ds⟩ := ds
  · simp at h
  obtain rfl : ds = [] := List.eq_nil_of_length_eq_zero (by simpa using h)
  rfl
set_option maxRecDepth 100000 in
theorem lifted (os : Os) (started : os.Started) (H : Type) (enc : TypeId × Value → H) :
    ReturnsInHanded {} Try.checked os 5 .any (Rows.mixTwoSpec.pre6 enc Try.prog Try.f5 Rows.mixTwoRow.domain false) (Rows.mixTwoSpec.post enc Try.prog Try.f5 false true false false) := by
  refine returnsInHanded_of_change (C := Try.checked) own started (by kernel_rfl) Try.func5
    (ChangeSpec.witness6 (enc := enc) (C := Try.checked) false ⟨#[], #[.int .u64 0, .int .u64 0, .int .u64 0], []⟩ 8 (by kernel_rfl) (by kernel_rfl) (by kernel_rfl) (by kernel_rfl)) ?_
  intro W base args ds gs before hval hW _ _
  obtain ⟨p, q, hA, hV, rfl, hfz, hnd⟩ := id hW
  obtain ⟨rfl, rfl⟩ := trodVars_none hV
  exact Law.ending (C := Try.checked) (s := Rows.mixTwoSpec) laid pars rfl Try.underlying4 rfl (fnOf H) hW (calls H enc W base args ds p hval hA)
theorem over : Rows.mixTwoRow.holds Try.pinned (OpenSpec.ofChange Rows.mixTwoSpec) :=
  OpenClaim.holds_of_wide 5 Try.f5 rfl rfl rfl rfl rfl rfl rfl ⟨rfl, rfl, rfl, rfl, rfl⟩ rfl rfl rfl rfl rfl (by kernel_rfl) Try.func5 (by kernel_rfl)
    (of_decide_eq_true (by kernel_rfl)) (by unfold Func.isWrapper; first | (rw [if_pos (by decide +kernel)]; kernel_rfl) | (rw [if_neg (by decide +kernel)]; exact ⟨rfl, rfl⟩))
    (fun os started H enc _ => lifted os started H enc)
theorem proved : Rows.MixTwoSaid := over
end Go.Proofs.Ytimbibphpaibiaa.mixTwo
