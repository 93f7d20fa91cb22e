/-
  The statement on one bucket more, over what it takes of the program.
-/
import Derived.Test.YtjaacohnnplmdaaJpSpec
import Derived.Test.YtjaacohnnplmdaaJpFn3
namespace Go.Proofs.Ytjaacohnnplmdaa.Jump
set_option linter.unusedVariables false
set_option linter.unusedSimpArgs false
open Go.RowKit Mem

set_option maxHeartbeats 1000000 in
theorem one_main (kv many m1 b1 e1 b2 e2 : Int) (W : World) (HA : ∀ V, Calls Try.prog 11 #[] V (Law.Yes V)) (hw : IntKind.i64.wrap (many + 1) = m1)
    (h1 : ∀ V, Calls Try.prog 7 #[.int .u64 kv, .int .i64 many] V (Gave (.tuple #[.int .i64 b1, .int .i64 e1]) V))
    (h2 : ∀ V, Calls Try.prog 7 #[.int .u64 kv, .int .i64 m1] V (Gave (.tuple #[.int .i64 b2, .int .i64 e2]) V))
    (h : e1 = 2 ∨ (e1 = 0 ∧ e2 = 2 ∧ many = 1048576) ∨ (e1 = 0 ∧ e2 = 0 ∧ 0 ≤ b1 ∧ b1 < many ∧ b2 = b1) ∨ (e1 = 0 ∧ e2 = 0 ∧ 0 ≤ b1 ∧ b1 < many ∧ b2 = many)) :
    Calls Try.prog 4 #[.int .u64 kv, .int .i64 many] W (Law.Yes W) := by
  have K1 := Lib.hid h1
  have K2 := Lib.hid h2
  have KA := Lib.hid HA
  clear h1 h2 HA
  rcases h with rfl | ⟨rfl, rfl, hm⟩ | ⟨rfl, rfl, h0, hlt, rfl⟩ | ⟨rfl, rfl, h0, hlt, rfl⟩
  case' inr.inl =>
    have d1 : (many == 1048576) = true := by rw [beq_iff_eq]; exact hm
    clear hm
  case' inr.inr.inl =>
    have d1 : decide (b2 < many) = true := decide_eq_true hlt
    have d2 : decide (0 ≤ b2) = true := decide_eq_true h0
  case' inr.inr.inr =>
    have d1 : decide (b1 < b2) = true := decide_eq_true hlt
    have d2 : decide (0 ≤ b1) = true := decide_eq_true h0
    have d3 : (b2 == b1) = false := by rw [beq_eq_false_iff_ne]; omega
  all_goals
    go_enter Try.func4, Try.ntmps4
    go_wp2_with fail
    refine (KA.out _).mono ?_
    rintro e w0 ⟨rfl, hb0⟩
    go_wp2_with fail
    refine (K1.out _).mono ?_
    rintro e w1 ⟨rfl, hb1⟩
    have B1 := hb0.trans (hb1.mono hb0.size)
    clear hb0 hb1
    go_wp2_with fail
    refine (K2.out _).mono ?_
    rintro e w2 ⟨rfl, hb2⟩
    have B2 := Lib.hid (B1.trans (hb2.mono B1.size))
    clear hb2 B1
    go_wp2
    go_ret
    exact ⟨rfl, B2.out⟩
theorem one_words (hB : BucketSpec) (HA : ∀ V, Calls Try.prog 11 #[] V (Law.Yes V)) (key : UInt64) (many : Int) (w1 : (Lit.int .i64 many).wf = true) (W : World) :
    Calls Try.prog 4 #[.int .u64 key.toNat, .int .i64 many] W (Law.Yes W) := by
  rcases errJ_vals many with h | h
  · obtain ⟨m, rfl, h1, h2⟩ := ok_nat h
    have hw : IntKind.i64.wrap ((m : Int) + 1) = ((m + 1 : Nat) : Int) := IntWalk.i64_in _ (by omega)
    rcases Nat.lt_or_ge m 1048576 with h3 | h3
    · refine one_main _ _ _ _ _ _ _ W HA hw (bucket_ok hB key m h1 h2) (bucket_ok hB key (m + 1) (by omega) (by omega)) (.inr (.inr ?_))
      have hl := last_lt (key := key) h1
      rcases one_more (key := key) h1 with e | e
      · exact .inl ⟨rfl, rfl, by omega, by omega, by rw [e]⟩
      · exact .inr ⟨rfl, rfl, by omega, by omega, by rw [e]⟩
    · exact one_main _ _ _ _ _ _ _ W HA hw (bucket_ok hB key m h1 h2) (bucket_bad hB key _ (errJ_two.2 (by omega))) (.inr (.inl ⟨rfl, rfl, by omega⟩))
  · exact one_main _ _ _ _ _ _ _ W HA rfl (bucket_bad hB key many h) (hB key _) (.inl rfl)
end Go.Proofs.Ytjaacohnnplmdaa.Jump
namespace Go.Proofs.Ytjaacohnnplmdaa.jumpOne
open Go.ChangeShapes Go.WideShapes Go.ChangeAt Go.RowKit Jump
set_option linter.unusedVariables false
theorem walk (a0 : Int) (w0 : (Lit.int .u64 a0).wf = true) (a1 : Int) (w1 : (Lit.int .i64 a1).wf = true) (W : World) :
    Calls Try.prog 4 #[.int .u64 a0, .int .i64 a1] W (Law.Yes W) := by
  obtain ⟨x, rfl⟩ := Words.of_wf64 w0
  exact one_words bucket_spec (alive_of bucket_spec jumps_spec) x a1 w1 W
theorem own : ownKnob Try.prog.godebug = none := by kernel_rfl
theorem laid : laidOutB Try.prog = true := by kernel_rfl
theorem pars : ∀ t ∈ Try.f4.params.toList, Try.prog.readableRec t = true ∧ t < Try.prog.types.size := by
  have h : Try.f4.params.toList.all (fun t => Try.prog.readableRec t && decide (t < Try.prog.types.size)) = true := by kernel_rfl
  intro t ht; have := List.all_eq_true.1 h t ht; simpa using this
set_option maxRecDepth 100000 in
theorem calls (H : Type) (enc : TypeId × Value → H) (W : World) (base : Nat) (args : Array Value) (ds : List (DataW H)) (before : List MemPlace)
    (hval : ∀ (j : Nat) t v, Try.f4.params[j]? = some t → args[j]? = some v → Value.okWide Try.prog W .any base t v)
    (hA : DataW.TrodAll enc Try.prog W 0 (fun _ => true) true Try.f4.params.toList args.toList ds before) :
    Calls Try.prog 4 args W (Law.Yes W) := by
  rw [Try.params4] at hA hval
  obtain ⟨v0, vs0, d0, ds0, p0, q0, hargs, rfl, rfl, h0, r0⟩ := trodAll_cons hA
  obtain ⟨v1, vs1, d1, ds1, p1, q1, rfl, rfl, rfl, h1, r1⟩ := trodAll_cons r0
  obtain ⟨rfl, rfl, rfl⟩ := trodAll_nil r1
  obtain rfl : args = #[v0, v1] := by cases args; simp_all
  obtain ⟨a0, rfl, rfl, rfl, w0⟩ := open_int Try.underlying22 (hval 0 22 v0 rfl rfl) h0
  obtain ⟨a1, rfl, rfl, rfl, w1⟩ := open_int Try.underlying3 (hval 1 3 v1 rfl rfl) h1
  exact walk (W := W) a0 w0 a1 w1
theorem fnOf (H : Type) : ∀ ds : List (DataW H), ds.length = Try.f4.params.toList.length → Rows.jumpOneSpec.fn H ds = { results := [.lit (.bool true)], args := ds } := by
  intro ds h
  have h : ds.length = 2 := h
  obtain _ | ⟨x0, ds⟩ := ds
  · simp at h
  obtain _ | ⟨x1, ds⟩ := ds
  · simp at h
  obtain rfl : ds = [] := List.eq_nil_of_length_eq_zero (by simpa using h)
  rfl
set_option maxRecDepth 100000 in
theorem lifted (os : Os) (started : os.Started) (H : Type) (enc : TypeId × Value → H) :
    ReturnsInHanded {} Try.checked os 4 .any (Rows.jumpOneSpec.pre6 enc Try.prog Try.f4 Rows.jumpOneRow.domain false) (Rows.jumpOneSpec.post enc Try.prog Try.f4 false true false false) := by
  refine returnsInHanded_of_change (C := Try.checked) own started (by kernel_rfl) Try.func4
    (ChangeSpec.witness6 (enc := enc) (C := Try.checked) false ⟨#[], #[.int .u64 0, .int .i64 0], []⟩ 8 (by kernel_rfl) (by kernel_rfl) (by kernel_rfl) (by kernel_rfl)) ?_
  intro W base args ds gs before hval hW _ _
  obtain ⟨p, q, hA, hV, rfl, hfz, hnd⟩ := id hW
  obtain ⟨rfl, rfl⟩ := trodVars_none hV
  exact Law.ending (C := Try.checked) (s := Rows.jumpOneSpec) laid pars rfl Try.underlying4 rfl (fnOf H) hW (calls H enc W base args ds p hval hA)
theorem over : Rows.jumpOneRow.holds Try.pinned (OpenSpec.ofChange Rows.jumpOneSpec) :=
  OpenClaim.holds_of_wide 4 Try.f4 rfl rfl rfl rfl rfl rfl rfl ⟨rfl, rfl, rfl, rfl, rfl⟩ rfl rfl rfl rfl rfl (by kernel_rfl) Try.func4 (by kernel_rfl)
    (of_decide_eq_true (by kernel_rfl)) (by unfold Func.isWrapper; first | (rw [if_pos (by decide +kernel)]; kernel_rfl) | (rw [if_neg (by decide +kernel)]; exact ⟨rfl, rfl⟩))
    (fun os started H enc _ => lifted os started H enc)
theorem proved : Rows.JumpOneSaid := over
end Go.Proofs.Ytjaacohnnplmdaa.jumpOne
