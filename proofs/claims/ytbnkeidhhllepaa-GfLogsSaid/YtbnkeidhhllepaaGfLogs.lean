/-
  GfLogs: for every two bytes a and b, the law GfLogs answers true (each byte but 0 is one power of 2 below 255, and the logarithm of a product is the sum of both, round by 255), and its arguments read afterwards as before. No condition.
-/
import Derived.Test.YtbnkeidhhllepaaGfAlive
import Derived.Test.YtbnkeidhhllepaaLaw
namespace Go.Proofs.Ytbnkeidhhllepaa.gfLogs
open Go.ChangeShapes Go.WideShapes Go.ChangeAt Go.RowKit
open Gf
set_option linter.unusedVariables false

theorem log_n0 (a : UInt8) (W : World) (x : Int) (h : a = 0) : Calls Try.prog 11 #[.int .u8 a.toNat] W fun e W' => e = .returned (.tuple #[.int .i64 0, .int .i64 3]) ∧ W = W' := by
  subst h; exact log_0 W

set_option maxHeartbeats 1000000 in
theorem words_a (a b : UInt8) (h : a = 0) (W : World) :
    Calls Try.prog 7 #[.int .u8 a.toNat, .int .u8 b.toNat] W (Law.Yes W) := by
  have f1 := is0 h
  have H := Lib.hid h
  clear h
  by_cases hb : b = 0
  · have f2 := is0 hb
    have HB := Lib.hid hb
    clear hb
    go_enter Try.func7, Try.ntmps7
    go_wp2_with fail
    refine (alive_c _).mono ?_
    rintro e w' ⟨rfl, rfl⟩
    go_wp2_with fail
    refine (log_n0 a _ 0 H.out).mono ?_
    rintro e w' ⟨rfl, rfl⟩
    go_wp2_with fail
    refine (log_n0 b _ 0 HB.out).mono ?_
    rintro e w' ⟨rfl, rfl⟩
    go_wp2_with fail
    go_ret
    exact ⟨rfl, Below.refl _ _⟩
  · have HB := Lib.hid hb
    clear hb
    go_enter Try.func7, Try.ntmps7
    go_wp2_with fail
    refine (alive_c _).mono ?_
    rintro e w' ⟨rfl, rfl⟩
    go_wp2_with fail
    refine (log_n0 a _ 0 H.out).mono ?_
    rintro e w' ⟨rfl, rfl⟩
    go_wp2_with fail
    refine (log_c b HB.out _).mono ?_
    rintro e w' ⟨rfl, rfl⟩
    go_wp2_with fail
    go_ret
    exact ⟨rfl, Below.refl _ _⟩
set_option maxHeartbeats 1000000 in
theorem words_b (a b : UInt8) (ha : ¬ a = 0) (h : b = 0) (W : World) :
    Calls Try.prog 7 #[.int .u8 a.toNat, .int .u8 b.toNat] W (Law.Yes W) := by
  have f1 := isnt0 ha
  have f2 := is0 h
  have H := Lib.hid h
  have HA := Lib.hid ha
  clear h ha
  go_enter Try.func7, Try.ntmps7
  go_wp2_with fail
  refine (alive_c _).mono ?_
  rintro e w' ⟨rfl, rfl⟩
  go_wp2_with fail
  refine (log_c a HA.out _).mono ?_
  rintro e w' ⟨rfl, rfl⟩
  go_wp2_with fail
  refine (log_n0 b _ 0 H.out).mono ?_
  rintro e w' ⟨rfl, rfl⟩
  go_wp2_with fail
  go_ret
  exact ⟨rfl, Below.refl _ _⟩

theorem pow2_log (a : UInt8) (ha : ¬ a = 0) (W : World) :
    Calls Try.prog 8 #[.int .u8 2, .int .i64 (log a)] W fun e W' => e = .returned (.tuple #[.int .u8 a.toNat, .int .i64 0]) ∧ W = W' := by
  have h := pow2_c (log a) (by have := (log_spec ha).1; omega) W
  rwa [(log_spec ha).2] at h
theorem log_prod (a b : UInt8) (ha : ¬ a = 0) (hb : ¬ b = 0) (W : World) :
    Calls Try.prog 11 #[.int .u8 (mul a b).toNat] W fun e W' => e = .returned (.tuple #[.int .i64 (((log a : Int) + (log b : Int)) % 255), .int .i64 0]) ∧ W = W' := by
  have h := log_c (mul a b) (mul_ne_zero ha hb) W
  rw [log_mul ha hb, show (((log a + log b) % 255 : Nat) : Int) = ((log a : Int) + (log b : Int)) % 255 by omega] at h
  exact h

set_option maxRecDepth 100000 in
set_option maxHeartbeats 1000000 in
theorem words_c (a b : UInt8) (ha : ¬ a = 0) (hb : ¬ b = 0) (W : World) :
    Calls Try.prog 7 #[.int .u8 a.toNat, .int .u8 b.toNat] W (Law.Yes W) := by
  have f1 := isnt0 ha
  have f2 := isnt0 hb
  have la : ((log a : Nat) : Int) < 255 := by have := (log_spec ha).1; omega
  have lb : ((log b : Nat) : Int) < 255 := by have := (log_spec hb).1; omega
  have HA := Lib.hid ha
  have HB := Lib.hid hb
  clear ha hb
  go_enter Try.func7, Try.ntmps7
  go_wp2_with fail
  refine (alive_c _).mono ?_
  rintro e w' ⟨rfl, rfl⟩
  go_wp2_with fail
  refine (log_c a HA.out _).mono ?_
  rintro e w' ⟨rfl, rfl⟩
  go_wp2_with fail
  refine (log_c b HB.out _).mono ?_
  rintro e w' ⟨rfl, rfl⟩
  go_wp2_with fail
  refine (mul_c a b _).mono ?_
  rintro e w' ⟨rfl, rfl⟩
  go_wp2_with fail
  refine (log_prod a b HA.out HB.out _).mono ?_
  rintro e w' ⟨rfl, rfl⟩
  go_wp2_with fail
  refine (pow2_log a HA.out _).mono ?_
  rintro e w' ⟨rfl, rfl⟩
  go_wp2_with fail
  go_ret
  exact ⟨rfl, Below.refl _ _⟩

theorem walk (a0 : Int) (w0 : (Lit.int .u8 a0).wf = true) (a1 : Int) (w1 : (Lit.int .u8 a1).wf = true) (W : World) :
    Calls Try.prog 7 #[.int .u8 a0, .int .u8 a1] W (Law.Yes W) := by
  obtain ⟨x, rfl⟩ := Words.of_wf8 w0
  obtain ⟨y, rfl⟩ := Words.of_wf8 w1
  by_cases h : x = 0
  · exact words_a x y h W
  · by_cases h2 : y = 0
    · exact words_b x y h h2 W
    · exact words_c x y h h2 W
theorem own : ownKnob Try.prog.godebug = none := by kernel_rfl
theorem laid : laidOutB Try.prog = true := by kernel_rfl
theorem pars : ∀ t ∈ Try.f7.params.toList, Try.prog.readableRec t = true ∧ t < Try.prog.types.size := by
  have h : Try.f7.params.toList.all (fun t => Try.prog.readableRec t && decide (t < Try.prog.types.size)) = true := by kernel_rfl
  intro t ht; have := List.all_eq_true.1 h t ht; simpa using this
theorem calls (H : Type) (enc : TypeId × Value → H) (W : World) (base : Nat) (args : Array Value) (ds : List (DataW H)) (before : List MemPlace)
    (hval : ∀ (j : Nat) t v, Try.f7.params[j]? = some t → args[j]? = some v → Value.okWide Try.prog W .any base t v)
    (hA : DataW.TrodAll enc Try.prog W 0 (fun _ => true) true Try.f7.params.toList args.toList ds before) :
    Calls Try.prog 7 args W (Law.Yes W) := by
  rw [Try.params7] at hA hval
  obtain ⟨v0, vs0, d0, ds0, p0, q0, hargs, rfl, rfl, h0, r0⟩ := trodAll_cons hA
  obtain ⟨v1, vs1, d1, ds1, p1, q1, rfl, rfl, rfl, h1, r1⟩ := trodAll_cons r0
  obtain ⟨rfl, rfl, rfl⟩ := trodAll_nil r1
  obtain rfl : args = #[v0, v1] := by cases args; simp_all
  obtain ⟨a0, rfl, rfl, rfl, w0⟩ := open_int Try.underlying5 (hval 0 5 v0 rfl rfl) h0
  obtain ⟨a1, rfl, rfl, rfl, w1⟩ := open_int Try.underlying5 (hval 1 5 v1 rfl rfl) h1
  exact walk a0 w0 a1 w1 W
theorem fnOf (H : Type) : ∀ ds : List (DataW H), ds.length = Try.f7.params.toList.length → Rows.gfLogsSpec.fn H ds = { results := [.lit (.bool true)], args := ds } := by
  intro ds h
  have h : ds.length = 2 := h
  obtain _ | ⟨x0, ds⟩ := ds
  · simp at h
  obtain _ | ⟨x1, ds⟩ := ds
  · simp at h
  obtain rfl : ds = [] := List.eq_nil_of_length_eq_zero (by simpa using h)
  rfl
set_option maxRecDepth 100000 in
theorem lifted (os : Os) (started : os.Started) (H : Type) (enc : TypeId × Value → H) :
    ReturnsInHanded {} Try.checked os 7 .any (Rows.gfLogsSpec.pre6 enc Try.prog Try.f7 Rows.gfLogsRow.domain false) (Rows.gfLogsSpec.post enc Try.prog Try.f7 false true false false) := by
  refine returnsInHanded_of_change (C := Try.checked) own started (by kernel_rfl) Try.func7
    (ChangeSpec.witness6 (enc := enc) (C := Try.checked) false ⟨#[], #[.int .u8 0, .int .u8 0], []⟩ 8 (by kernel_rfl) (by kernel_rfl) (by kernel_rfl) (by kernel_rfl)) ?_
  intro W base args ds gs before hval hW _ _
  obtain ⟨p, q, hA, hV, rfl, hfz, hnd⟩ := id hW
  obtain ⟨rfl, rfl⟩ := trodVars_none hV
  exact Law.ending (C := Try.checked) (s := Rows.gfLogsSpec) laid pars rfl Try.underlying4 rfl (fnOf H) hW (calls H enc W base args ds p hval hA)
theorem over : Rows.gfLogsRow.holds Try.pinned (OpenSpec.ofChange Rows.gfLogsSpec) :=
  OpenClaim.holds_of_wide 7 Try.f7 rfl rfl rfl rfl rfl rfl rfl ⟨rfl, rfl, rfl, rfl, rfl⟩ rfl rfl rfl rfl rfl (by kernel_rfl) Try.func7 (by kernel_rfl)
    (of_decide_eq_true (by kernel_rfl)) (by unfold Func.isWrapper; first | (rw [if_pos (by decide +kernel)]; kernel_rfl) | (rw [if_neg (by decide +kernel)]; exact ⟨rfl, rfl⟩))
    (fun os started H enc _ => lifted os started H enc)
theorem proved : Rows.GfLogsSaid := over
end Go.Proofs.Ytbnkeidhhllepaa.gfLogs
