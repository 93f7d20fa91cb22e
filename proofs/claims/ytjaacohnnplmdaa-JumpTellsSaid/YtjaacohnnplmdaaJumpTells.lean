/-
  The statement that Bucket and Jumps answer what the document says, over what it takes of the program.
-/
import Derived.Test.YtjaacohnnplmdaaJpSpec
import Derived.Test.YtjaacohnnplmdaaJpFn3
import Derived.Test.YtjaacohnnplmdaaJpRef
namespace Go.Proofs.Ytjaacohnnplmdaa.Jump
set_option linter.unusedVariables false
set_option linter.unusedSimpArgs false
open Go.RowKit Mem

set_option maxHeartbeats 1000000 in
theorem tells_bad (hB : BucketSpec) (hJ : JumpsSpec) (key : UInt64) (many : Int) (h : many < 1 ∨ 1048576 < many) (W : World) :
    Calls Try.prog 3 #[.int .u64 key.toNat, .int .i64 many] W (Law.Yes W) := by
  have he := errJ_two.2 h
  have K1 := Lib.hid (bucket_bad hB key many he)
  have K2 := Lib.hid (jumps_bad hJ key many he)
  clear he
  rcases Int.lt_or_le many 1 with h1 | h1
  case' inl =>
    have d1 : decide (many < 1) = true := decide_eq_true h1
    have d2 : many = many := rfl
  case' inr =>
    have d1 : decide (many < 1) = false := decide_eq_false (by omega)
    have d2 : decide (many > 1048576) = true := decide_eq_true (by omega)
  all_goals
    clear h h1
    go_enter Try.func3, Try.ntmps3
    go_wp2_with fail
    refine (K1.out _).mono ?_
    rintro e w1 ⟨rfl, hb1⟩
    go_wp2_with fail
    refine (K2.out _).mono ?_
    rintro e w2 ⟨A, c, rfl, hb2⟩
    have B2 := Lib.hid (hb1.trans (hb2.mono hb1.size))
    clear hb1 hb2
    go_wp2
    go_ret
    exact ⟨rfl, B2.out⟩
set_option maxHeartbeats 2000000 in
theorem tells_good (hB : BucketSpec) (hJ : JumpsSpec) (key : UInt64) (m : Nat) (h1 : 1 ≤ m) (h2 : m ≤ 1048576) (W : World) :
    Calls Try.prog 3 #[.int .u64 key.toNat, .int .i64 m] W (Law.Yes W) := by
  have K1 := Lib.hid (bucket_ok hB key m h1 h2)
  have K2 := Lib.hid (jumps_ok hJ key m h1 h2)
  have K3 := Lib.hid (iJumps_c key m h1 h2)
  have LA := Lib.hid (jumps_last (key := key) h1)
  have hp := cnt_pos (key := key) h1
  have hc := cnt_le key m
  have LEN := Lib.hid (jumps_len key m)
  have d1 : decide ((m : Int) < 1) = false := decide_eq_false (by omega)
  have d2 : decide ((m : Int) > 1048576) = false := decide_eq_false (by omega)
  have d3 : decide ((1048576 : Int) < (m : Int)) = false := decide_eq_false (by omega)
  have d4 : decide (1048576 < m) = false := decide_eq_false (by omega)
  have d5 : decide (m < 1) = false := decide_eq_false (by omega)
  unfold JumpsAt at K2
  obtain ⟨k, hk⟩ : ∃ k, cnt key m = k + 1 := ⟨cnt key m - 1, by omega⟩
  have KK := Lib.hid (show cnt key m - 1 = k by omega)
  have e2 : IntKind.i64.wrap ((cnt key m : Int) - 1) = (k : Int) := by rw [show (cnt key m : Int) - 1 = k by omega]; exact IntWalk.i64_in _ (by omega)
  have i1 : (k : Int) < (cnt key m : Int) := by omega
  generalize last key m = b at *
  generalize hjl : jumps key m = l at *
  generalize cnt key m = n at *
  have LA2 := Lib.hid (show l[k]? = some (b : Int) by have := LA.out; rwa [KK.out] at this)
  clear hk hjl LA KK
  go_enter Try.func3, Try.ntmps3
  go_wp2_with fail
  refine (K1.out _).mono ?_
  rintro e w1 ⟨rfl, hb1⟩
  go_wp2_with fail
  refine (K2.out _).mono ?_
  rintro e w2 ⟨g, o, c, rfl, _, hr, hg, hb2⟩
  have B2 := hb1.trans (hb2.mono hb1.size)
  clear hb1 hb2
  go_wp2_with fail
  refine (K3.out _).mono ?_
  rintro e w3 ⟨A, c3, rfl, hr3, hb3⟩
  have B3 := Lib.hid (B2.trans (hb3.mono B2.size))
  have R2 := Lib.hid (hr.below hb3)
  have R3 := Lib.hid hr3
  clear hb3 hr hr3 B2
  have KE := Lib.hid (equalZ_c (some ⟨g, o, none⟩) A l l n n c c3 w3 LEN.out LEN.out (by omega) (by omega) R2.out R3.out)
  obtain ⟨g3, o3, rfl, hg3, c0⟩ := R3.out k (.int .i64 b) (by rw [List.getElem?_map, LA2.out]; rfl)
  go_wp2_with (go_at_call 10; refine KE.out.mono ?_; rintro e w4 ⟨rfl, hb4⟩; have B4 := Lib.hid (B3.out.trans (hb4.mono B3.out.size)); have c4 := (hb4.cell (p := ⟨g3, o3 + k, none⟩) hg3).trans c0; have t0 : decide (l = l) = true := decide_eq_true rfl; clear hb4)
  go_ret
  exact ⟨rfl, B4.out⟩
theorem tells_words (hB : BucketSpec) (hJ : JumpsSpec) (key : UInt64) (many : Int) (W : World) :
    Calls Try.prog 3 #[.int .u64 key.toNat, .int .i64 many] W (Law.Yes W) := by
  rcases errJ_vals many with h | h
  · obtain ⟨m, rfl, h1, h2⟩ := ok_nat h
    exact tells_good hB hJ key m h1 h2 W
  · exact tells_bad hB hJ key many (errJ_two.1 h) W
end Go.Proofs.Ytjaacohnnplmdaa.Jump
namespace Go.Proofs.Ytjaacohnnplmdaa.jumpTells
open Go.ChangeShapes Go.WideShapes Go.ChangeAt Go.RowKit Jump
set_option linter.unusedVariables false
theorem walk (a0 : Int) (w0 : (Lit.int .u64 a0).wf = true) (a1 : Int) (w1 : (Lit.int .i64 a1).wf = true) (W : World) :
    Calls Try.prog 3 #[.int .u64 a0, .int .i64 a1] W (Law.Yes W) := by
  obtain ⟨x, rfl⟩ := Words.of_wf64 w0
  exact tells_words bucket_spec jumps_spec x a1 W
theorem own : ownKnob Try.prog.godebug = none := by kernel_rfl
theorem laid : laidOutB Try.prog = true := by kernel_rfl
theorem pars : ∀ t ∈ Try.f3.params.toList, Try.prog.readableRec t = true ∧ t < Try.prog.types.size := by
  have h : Try.f3.params.toList.all (fun t => Try.prog.readableRec t && decide (t < Try.prog.types.size)) = true := by kernel_rfl
  intro t ht; have := List.all_eq_true.1 h t ht; simpa using this
set_option maxRecDepth 100000 in
theorem calls (H : Type) (enc : TypeId × Value → H) (W : World) (base : Nat) (args : Array Value) (ds : List (DataW H)) (before : List MemPlace)
    (hval : ∀ (j : Nat) t v, Try.f3.params[j]? = some t → args[j]? = some v → Value.okWide Try.prog W .any base t v)
    (hA : DataW.TrodAll enc Try.prog W 0 (fun _ => true) true Try.f3.params.toList args.toList ds before) :
    Calls Try.prog 3 args W (Law.Yes W) := by
  rw [Try.params3] at hA hval
  obtain ⟨v0, vs0, d0, ds0, p0, q0, hargs, rfl, rfl, h0, r0⟩ := trodAll_cons hA
  obtain ⟨v1, vs1, d1, ds1, p1, q1, rfl, rfl, rfl, h1, r1⟩ := trodAll_cons r0
  obtain ⟨rfl, rfl, rfl⟩ := trodAll_nil r1
  obtain rfl : args = #[v0, v1] := by cases args; simp_all
  obtain ⟨a0, rfl, rfl, rfl, w0⟩ := open_int Try.underlying22 (hval 0 22 v0 rfl rfl) h0
  obtain ⟨a1, rfl, rfl, rfl, w1⟩ := open_int Try.underlying3 (hval 1 3 v1 rfl rfl) h1
  exact walk (W := W) a0 w0 a1 w1
theorem fnOf (H : Type) : ∀ ds : List (DataW H), ds.length = Try.f3.params.toList.length → Rows.jumpTellsSpec.fn H ds = { results := [.lit (.bool true)], args := ds } := by
  intro ds h
  have h : ds.length = 2 := h
  obtain _ | ⟨x0, ds⟩ := ds
  · simp at h
  obtain _ | ⟨x1, ds⟩ := ds
  · simp at h
  obtain rfl : ds = [] := List.eq_nil_of_length_eq_zero (by simpa using h)
  rfl
set_option maxRecDepth 100000 in
theorem lifted (os : Os) (started : os.Started) (H : Type) (enc : TypeId × Value → H) :
    ReturnsInHanded {} Try.checked os 3 .any (Rows.jumpTellsSpec.pre6 enc Try.prog Try.f3 Rows.jumpTellsRow.domain false) (Rows.jumpTellsSpec.post enc Try.prog Try.f3 false true false false) := by
  refine returnsInHanded_of_change (C := Try.checked) own started (by kernel_rfl) Try.func3
    (ChangeSpec.witness6 (enc := enc) (C := Try.checked) false ⟨#[], #[.int .u64 0, .int .i64 0], []⟩ 8 (by kernel_rfl) (by kernel_rfl) (by kernel_rfl) (by kernel_rfl)) ?_
  intro W base args ds gs before hval hW _ _
  obtain ⟨p, q, hA, hV, rfl, hfz, hnd⟩ := id hW
  obtain ⟨rfl, rfl⟩ := trodVars_none hV
  exact Law.ending (C := Try.checked) (s := Rows.jumpTellsSpec) laid pars rfl Try.underlying4 rfl (fnOf H) hW (calls H enc W base args ds p hval hA)
theorem over : Rows.jumpTellsRow.holds Try.pinned (OpenSpec.ofChange Rows.jumpTellsSpec) :=
  OpenClaim.holds_of_wide 3 Try.f3 rfl rfl rfl rfl rfl rfl rfl ⟨rfl, rfl, rfl, rfl, rfl⟩ rfl rfl rfl rfl rfl (by kernel_rfl) Try.func3 (by kernel_rfl)
    (of_decide_eq_true (by kernel_rfl)) (by unfold Func.isWrapper; first | (rw [if_pos (by decide +kernel)]; kernel_rfl) | (rw [if_neg (by decide +kernel)]; exact ⟨rfl, rfl⟩))
    (fun os started H enc _ => lifted os started H enc)
theorem proved : Rows.JumpTellsSaid := over
end Go.Proofs.Ytjaacohnnplmdaa.jumpTells
